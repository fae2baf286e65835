/- Parts of the walk. -/
import Derived.Test.YtcofnockikninaaGreatDoorZgNum9
import Derived.Deep.RegionLaw
import Derived.Test.YtcofnockikninaaGreatDoorZgRA
set_option maxRecDepth 100000
set_option maxHeartbeats 4000000
namespace Go.Proofs.YtcofnockikninaaGreatDoor
open Go.RowKit
theorem fallsP_two (a b : Bs) (l : List Bs) : fallsP (a :: b :: l) = (lessP b a || fallsP (b :: l)) := rfl
theorem falls_snoc (x : Bs) : ∀ l : List Bs, fallsP (l ++ [x]) = (fallsP l || match l.getLast? with | none => false | some y => lessP x y)
 | [] => rfl
 | [a] => by simp [fallsP]
 | a :: b :: l => by
  have ih := falls_snoc x (b :: l)
  rw [List.cons_append, List.cons_append, fallsP_two, fallsP_two, ← List.cons_append, ih, List.getLast?_cons_cons, Bool.or_assoc]
theorem falls_next (l : List Bs) (y x : Bs) : fallsP ((l ++ [y]) ++ [x]) = (fallsP (l ++ [y]) || lessP x y) := by
 rw [falls_snoc, List.getLast?_append]
 rfl
section
variable {P : Program}
structure Elem5 (P : Program) (t e : TypeId) (z : Value) : Prop where
 under : P.underlying t = some (.slice e)
 info : ∃ i, P.info? e = some i ∧ i.zero = some z ∧ i.size = 5 ∧ i.bytes = 72
 five : z.cells.size = 5
def OwnD (e : TypeId) (w : World) (base : Nat) (v : Value) (n : Nat) (xs : List Value) : Prop := w.ownsRow base e 5 v n xs
theorem run_append_five {t e : TypeId} {z : Value} (E : Elem5 P t e z) (w : World) (base : Nat) (v : Value) (n : Nat) (xs ds : List Value) (hown : OwnD e w base v n xs) (ga go c : Nat) (hds : ds.length = 5) (hy : CellsAt w ga go ds) (h1 : ∀ u ∈ ds, u.oneCell' = true) (hb : base ≤ w.heap.size) (hlen : n ≤ 1073741824) (ty : TypeId) :
  ∃ v' w', (Builtin.append_ #[t, t] ty #[v, .slice (some ⟨ga, go, none⟩) 1 c]).run P w = .ok v' w' ∧ OwnD e w' base v' (n + 1) (xs ++ ds) ∧ w.grownBy w' v.ownBlock ∧ (v'.ownBlock = v.ownBlock ∨ v'.ownBlock = some w.heap.size) := by
 obtain ⟨hu, ⟨i, hi, hz, hsz, hby⟩, hfive⟩ := E
 have hbb : (n + 1) * i.bytes ≤ 140737488355328 := by rw [hby]; omega
 have hn : ∀ j u, ds[j]? = some u → w.cell? ((⟨ga, go, none⟩ : Addr).add j) = some u := by
  intro j u hu
  rw [Addr.add_mid]; exact hy j u hu
 have hl5 : ds.length = 1 * 5 := by omega
 obtain ⟨v', w', hr, h2, h3, _⟩ := run_append_own (P := P) w base t ty e i z 5 72 hu hi hz hsz hby hfive (by omega) v n xs hown ⟨ga, go, none⟩ 1 c ds hl5 hn h1 (by simp only [maxLen]; omega) (by rw [← hby]; exact hbb) hb
 refine ⟨v', w', hr, h2, h3, ?_⟩
 have hl5i : ds.length = 1 * i.size := by rw [hsz]; omega
 have hown' := hown
 rcases hown'.2 with ⟨rfl, rfl⟩ | ⟨g, cap, cur, rfl, hbg, hg, hnc, hcm, hcs, htake⟩
 ·have hr2 := run_append_nil (P := P) w t ty e i z hu hi hz ⟨ga, go, none⟩ 1 c ds hl5i hn (by omega) (by omega) (by rw [hby]; omega)
  rw [hr] at hr2
  have := (Result.ok.inj hr2).1
  subst this
  exact Or.inr rfl
 ·by_cases hroom : n + 1 ≤ cap
  ·have hr2 := run_append_room (P := P) w t ty e i hu hi g n cap cur hg ⟨ga, go, none⟩ 1 c ds hl5i hn h1 hroom (by rw [hsz, hcs, hl5, ← Nat.add_mul]; exact Nat.mul_le_mul_right _ hroom)
   rw [hr] at hr2
   have := (Result.ok.inj hr2).1
   subst this
   exact Or.inl rfl
  ·have holds : ∀ j u, xs[j]? = some u → w.cell? ((⟨g, 0, none⟩ : Addr).add j) = some u := World.ownsRow.cells hown (g := g) rfl
   have hr2 := run_append_grow (P := P) w t ty e i z hu hi hz ⟨g, 0, none⟩ n cap xs (by rw [hsz]; exact hown.1) holds ⟨ga, go, none⟩ 1 c ds hl5i hn (by omega) (by omega) (growslice_fits (by omega) hbb)
   rw [hr] at hr2
   have := (Result.ok.inj hr2).1
   subst this
   exact Or.inr rfl
theorem step_append_five {t e : TypeId} {z : Value} (E : Elem5 P t e z) {w : World} {ops : Array Oper} {o : Oper} {a : Act} {K : Act → World → Prop} {Q : Exit → Act → World → Prop} {F : Prop} (hgd : o.guard = none) (s x : Operand)
  (ho : o.op = .call { callee := .builtin .append, args := #[s, x], argTypes := #[t, t] }) (base : Nat) (v : Value) (n : Nat) (xs ds : List Value) (hs : a.eval s = v) (hown : OwnD e w base v n xs) (ga go c : Nat)
  (hx : a.eval x = .slice (some ⟨ga, go, none⟩) 1 c) (hds : ds.length = 5) (hy : CellsAt w ga go ds) (h1 : ∀ u ∈ ds, u.oneCell' = true) (hb : base ≤ w.heap.size) (hlen : n ≤ 1073741824)
  (h : ∀ v' w', OwnD e w' base v' (n + 1) (xs ++ ds) → w.grownBy w' v.ownBlock → (v'.ownBlock = v.ownBlock ∨ v'.ownBlock = some w.heap.size) → K (a.put o.dst v') w') : if Region.wanted o (yielded ops a.tmps) = true then Oper.wp P o a w K Q else F := by
 have hw : Region.wanted o (yielded ops a.tmps) = true := by simp [Region.wanted, hgd]
 rw [if_pos hw]
 obtain ⟨v', w', hrun, h2, h3, h4⟩ := run_append_five E w base v n xs ds hown ga go c hds hy h1 hb hlen o.type
 unfold Oper.wp execOp
 simp only [ho, resolve, invoke, builtin, Sem.run_bind, Sem.run_pure, Result.andThen_ok, List.map_toArray, List.map_cons, List.map_nil, hs, hx, hrun]
 exact h v' w' h2 h3 h4
end
theorem ownd_nil (e : TypeId) (w : World) (base : Nat) : OwnD e w base (.slice none 0 0) 0 [] := World.ownsRow_nil w base e 5
theorem OwnD.form {e : TypeId} {w : World} {base : Nat} {v : Value} {n : Nat} {xs : List Value} (h : OwnD e w base v n xs) : ∃ sp c, v = .slice sp n c ∧ n ≤ c ∧ (sp = none → c = 0) := by
 rcases h.2 with ⟨rfl, rfl⟩ | ⟨g, cap, cur, rfl, _, _, hn, _⟩
 ·exact ⟨none, 0, rfl, Nat.le_refl _, fun _ => rfl⟩
 ·exact ⟨_, cap, rfl, hn, fun e => by cases e⟩
theorem OwnD.at {e : TypeId} {w : World} {base : Nat} {v : Value} {n : Nat} {xs : List Value} (h : OwnD e w base v n xs) (hn : 0 < n) : ∃ g c, v = .slice (some ⟨g, 0, none⟩) n c ∧ base ≤ g ∧ g < w.heap.size ∧ n ≤ c ∧ ∀ i, i < n → CellsAt w g (0 + i * 5) ((xs.drop (i * 5)).take 5) := by
 rcases h.2 with ⟨rfl, rfl⟩ | ⟨g, cap, cur, rfl, hb, hg, hnc, _⟩
 ·omega
 ·refine ⟨g, cap, rfl, hb, (Array.getElem?_eq_some_iff.1 hg).1, hnc, fun i hi j u hu => ?_⟩
  have hx : xs[i * 5 + j]? = some u := by
   rw [List.getElem?_take] at hu
   split at hu
   ·rw [List.getElem?_drop] at hu; exact hu
   ·cases hu
  have := World.ownsRow.cells h (g := g) rfl (i * 5 + j) u hx
  rw [Addr.add_mid] at this
  rw [Nat.zero_add]
  rw [Nat.zero_add] at this
  exact this
theorem OwnD.below {e : TypeId} {a b : World} {B : Nat} {v : Value} {n : Nat} {xs : List Value} (h : OwnD e a B v n xs) (hb : Below a.heap.size a b) : OwnD e b B v n xs := by
 refine ⟨h.1, ?_⟩
 rcases h.2 with h2 | ⟨g, cap, cur, hv, hB, hg, r⟩
 ·exact Or.inl h2
 ·exact Or.inr ⟨g, cap, cur, hv, hB, by rw [hb.block g (Array.getElem?_eq_some_iff.1 hg).1]; exact hg, r⟩
theorem OwnD.kept {e : TypeId} {a b : World} {B : Nat} {v : Value} {n : Nat} {xs : List Value} {row : Option Nat} (h : OwnD e a B v n xs) (hg : a.grownBy b row) (hne : ∀ g, v.ownBlock = some g → row ≠ some g) : OwnD e b B v n xs := by
 refine ⟨h.1, ?_⟩
 rcases h.2 with h2 | ⟨g, cap, cur, hv, hB, hgg, r⟩
 ·exact Or.inl h2
 ·exact Or.inr ⟨g, cap, cur, hv, hB, by rw [hg.block g (Array.getElem?_eq_some_iff.1 hgg).1 (fun er => hne g (by rw [hv]; rfl) er.symm)]; exact hgg, r⟩
theorem Erv : Elem5 Tryz.prog 31 33 (.agg #[.int .i64 0, .int .i64 0, .bool false, .slice none 0 0, .slice none 0 0]) := by
 refine ⟨Tryz.underlying31, ?_, rfl⟩
 have h : (Tryz.prog.info? 33).map (fun i => (i.zero, i.size, i.bytes)) = some (some (.agg #[.int .i64 0, .int .i64 0, .bool false, .slice none 0 0, .slice none 0 0]), 5, 72) := by kernel_rfl
 obtain ⟨i, hi, h2⟩ := Option.map_eq_some_iff.1 h
 simp only [Prod.mk.injEq] at h2
 exact ⟨i, hi, h2.1, h2.2.1, h2.2.2⟩
def zero5 : Array Value := #[.int .i64 0, .int .i64 0, .bool false, .slice none 0 0, .slice none 0 0]
def Free (SR : Nat → Prop) (O R : Nat) (x : Value) (b : Nat) : Prop := SR b ∧ b ≠ O ∧ b ≠ R ∧ x.ownBlock ≠ some b
structure Made (e : TypeId) (SR : Nat → Prop) (n : Nat) (w wr : World) (O R : Nat) (c t : Int) (md : Bool) (xb xk : Value) (ks : List DV) (i : Nat) (xs : List Value) : Prop where
 out : wr.heap[O]? = some (.cells #[.int .i64 c, .int .i64 t, .bool md, xb, xk] e (0, 0))
 res : wr.heap[R]? = some (.cells zero5 e (0, 0))
 own : OwnD e wr (O + 1) xk i xs
 kids : ∀ (j : Nat) (k : DV), j < i → ks[j]? = some k → VAt n (Free SR O R xk) wr ((xs.drop (j * 5)).take 5) k
 ro : R < O
 old : w.heap.size ≤ R
 b : Below w.heap.size w wr
theorem Made.lt {e : TypeId} {SR : Nat → Prop} {n : Nat} {w wr : World} {O R : Nat} {c t : Int} {md : Bool} {xb xk : Value} {ks : List DV} {i : Nat} {xs : List Value} (h : Made e SR n w wr O R c t md xb xk ks i xs) : O < wr.heap.size := (Array.getElem?_eq_some_iff.1 h.out).1
theorem Made.below {e : TypeId} {SR : Nat → Prop} {n : Nat} {w wr wn : World} {O R : Nat} {c t : Int} {md : Bool} {xb xk : Value} {ks : List DV} {i : Nat} {xs : List Value} (h : Made e SR n w wr O R c t md xb xk ks i xs) (hb : Below wr.heap.size wr wn) : Made e SR n w wn O R c t md xb xk ks i xs := by
 refine ⟨?_, ?_, h.own.below hb, fun j k hj hk => (h.kids j k hj hk).below hb, h.ro, h.old, h.b.trans (hb.mono h.b.size)⟩
 ·rw [hb.block O h.lt]; exact h.out
 ·rw [hb.block R (Nat.lt_trans h.ro h.lt)]; exact h.res
theorem OwnD.block {e : TypeId} {w : World} {base : Nat} {v : Value} {n : Nat} {xs : List Value} (h : OwnD e w base v n xs) : ∀ g, v.ownBlock = some g → base ≤ g ∧ g < w.heap.size := by
 intro g hg
 rcases h.2 with ⟨rfl, _⟩ | ⟨g', cap, cur, rfl, hb, hgg, _⟩
 ·cases hg
 ·simp only [Value.ownBlock, Option.some.injEq] at hg
  subst hg
  exact ⟨hb, (Array.getElem?_eq_some_iff.1 hgg).1⟩
theorem grown_below' {a b w : World} {row : Option Nat} {N : Nat} (hB : Below N w a) (hg : a.grownBy b row) (hn : N ≤ a.heap.size) (hr : ∀ g, row = some g → N ≤ g) : Below N w b := hB.grown hg hn hr
theorem grown_setRow (w : World) (g : Nat) (cs : Array Value) : w.grownBy (w.setRow g cs) (some g) :=
 ⟨rfl, rfl, rfl, by simp, fun k _ hk => setRow_other w g k _ (fun e => hk (by rw [e]))⟩
theorem chunk_old {xs ds : List Value} {i j : Nat} (hl : xs.length = i * 5) (hj : j < i) : ((xs ++ ds).drop (j * 5)).take 5 = (xs.drop (j * 5)).take 5 := by
 rw [List.drop_append_of_le_length (by omega), List.take_append_of_le_length (by rw [List.length_drop]; omega)]
theorem chunk_new {xs ds : List Value} {i : Nat} (hl : xs.length = i * 5) (hd : ds.length = 5) : ((xs ++ ds).drop (i * 5)).take 5 = ds := by
 rw [← hl, List.drop_left', List.take_of_length_le (by omega)]
 rfl
theorem Made.add {e : TypeId} {SR : Nat → Prop} {n : Nat} {w wa wb : World} {O R : Nat} {c t : Int} {md : Bool} {xb xk v' : Value} {ks : List DV} {i : Nat} {xs ds : List Value} {k : DV} (h : Made e SR n w wa O R c t md xb xk ks i xs) (hk : ks[i]? = some k) (hv : VAt n (Free SR O R xk) wa ds k)
  (hown : OwnD e wb (O + 1) v' (i + 1) (xs ++ ds)) (hg : wa.grownBy wb xk.ownBlock) (hor : v'.ownBlock = xk.ownBlock ∨ v'.ownBlock = some wa.heap.size) : Made e SR n w (wb.setCell ⟨O, 4, none⟩ v') O R c t md xb v' ks (i + 1) (xs ++ ds) := by
 have hlt := h.lt
 have hxo : ∀ g, xk.ownBlock = some g → O + 1 ≤ g := fun g hx => (OwnD.block h.own g hx).1
 have hvo : ∀ g, v'.ownBlock = some g → O + 1 ≤ g := fun g hx => (OwnD.block hown g hx).1
 have hO : wb.heap[O]? = some (.cells #[.int .i64 c, .int .i64 t, .bool md, xb, xk] e (0, 0)) := by rw [hg.block O hlt (fun e => by have := hxo O e.symm; omega)]; exact h.out
 have hR : wb.heap[R]? = some (.cells zero5 e (0, 0)) := by rw [hg.block R (Nat.lt_trans h.ro hlt) (fun e => by have := hxo R e.symm; have := h.ro; omega)]; exact h.res
 have hgs : wb.grownBy (wb.setCell ⟨O, 4, none⟩ v') (some O) := grown_setCell (World.grownBy.refl _ _) ⟨O, 4, none⟩ v' rfl
 have turn : ∀ {ds' : List Value} {k' : DV}, VAt n (Free SR O R xk) wa ds' k' → VAt n (Free SR O R v') (wb.setCell ⟨O, 4, none⟩ v') ds' k' := fun hv' => by
  have h1 : VAt n (fun b => Free SR O R xk b ∧ Free SR O R v' b) wa _ _ := hv'.mono fun b hb hbl => ⟨hb, hb.1, hb.2.1, hb.2.2.1, fun e => by
   rcases hor with ho | ho
   ·rw [ho] at e; exact hb.2.2.2 e
   ·rw [ho] at e; simp only [Option.some.injEq] at e; omega⟩
  have h2 := h1.kept hg (fun g hx hf => hf.1.2.2.2 hx)
  have h3 := h2.kept hgs (fun g hx hf => by simp only [Option.some.injEq] at hx; exact hf.1.2.1 hx.symm)
  exact h3.mono fun b hb _ => hb.2
 refine ⟨?_, ?_, OwnD.kept hown hgs (fun g hx e => by have := hvo g hx; simp only [Option.some.injEq] at e; omega), fun j k' hj hk' => ?_, h.ro, h.old, ?_⟩
 ·rw [heap_setCell_same wb O 4 _ e _ hO]; rfl
 ·rw [heap_setCell_other _ _ _ _ (show R ≠ O by have := h.ro; omega)]; exact hR
 ·rcases Nat.lt_succ_iff_lt_or_eq.1 hj with hj | rfl
  ·rw [chunk_old h.own.1 hj]
   exact turn (h.kids j k' hj hk')
  ·rw [chunk_new h.own.1 hv.len]
   rw [hk] at hk'
   cases hk'
   exact turn hv
 ·have h1 := grown_below' h.b hg h.b.size (fun g hx => by have := hxo g hx; have := h.ro; have := h.old; omega)
  exact grown_below' h1 hgs h1.size (fun g hx => by simp only [Option.some.injEq] at hx; have := h.ro; have := h.old; omega)
theorem Made.done {e : TypeId} {SR : Nat → Prop} {n : Nat} {w wr : World} {O R : Nat} {c t : Int} {md : Bool} {xb xk : Value} {ks : List DV} {xs : List Value} {bs : Bs} (h : Made e SR n w wr O R c t md xb xk ks ks.length xs) (hxb : BytesAt w xb bs) (hbS : bs ≠ [] → ∀ k, xb.ownBlock = some k → SR k) (hnew : ∀ b, w.heap.size ≤ b → SR b)
  (hl : bs.length ≤ 9223372036854775807 ∧ ks.length ≤ 9223372036854775807) (cs : Array Value) : VAt (n + 1) SR (wr.setRow R cs) (dcells c t md xb xk) (.mk c t md bs ks) ∧ Below w.heap.size w (wr.setRow R cs) := by
 have hgs := grown_setRow wr R cs
 have hB : Below w.heap.size w (wr.setRow R cs) := grown_below' h.b hgs h.b.size (fun g hx => by simp only [Option.some.injEq] at hx; have := h.old; omega)
 refine ⟨?_, hB⟩
 obtain ⟨sp, cp, rfl, hc1, hc2⟩ := h.own.form
 refine ⟨xb, sp, cp, rfl, hxb.below hB, hbS, hl, hc1, hc2, fun hne => ?_⟩
 simp only [DV.kids] at hne
 obtain ⟨g, c', e2, hb, _, _, hat⟩ := OwnD.at h.own (List.length_pos_iff.2 hne)
 simp only [Value.slice.injEq] at e2
 obtain ⟨rfl, _, _⟩ := e2
 have hgR : some g ≠ some R := fun e => by simp only [Option.some.injEq] at e; have := h.ro; omega
 refine ⟨g, 0, rfl, hnew g (by have := h.ro; have := h.old; omega), fun i k hik => ?_⟩
 have hi : i < ks.length := (List.getElem?_eq_some_iff.1 hik).1
 refine ⟨_, (hat i hi).kept hgs hgR, ?_⟩
 have h1 := (h.kids i k hi hik).kept hgs (fun g' hx hf => by simp only [Option.some.injEq] at hx; exact hf.2.2.1 hx.symm)
 exact h1.mono fun b hb _ => hb.1
theorem plain_any : ∀ (n : Nat) (S : Nat → Prop) (v : DV) (w : World) (cs : List Value), VAt n S w cs v → weight v ≤ 1000000 →
  Calls Tryz.prog 13 #[.agg cs.toArray] w fun e w' => ∃ ds : List Value, e = .returned (.agg ds.toArray) ∧ VAt n (fun b => S b ∨ w.heap.size ≤ b) w' ds v ∧ Below w.heap.size w w'
 | 0, _, _, _, _, h, _ => h.elim
 | n + 1, S, v, w, cs, hv, hw => by
  have Hih := h_ (plain_any n)
  obtain ⟨c, t, md, bs, ks⟩ := v
  obtain ⟨xa, sa, na, rfl, hxa, hxs, ⟨hbl, hkl⟩, _, _, hka⟩ := hv
  simp only [DV.cls, DV.tag, DV.made, DV.bytes, DV.kids] at *
  have hwb : bs.length ≤ 1000000 ∧ ks.length ≤ 1000000 ∧ ∀ (i : Nat) (k : DV), ks[i]? = some k → weight k ≤ 1000000 := by
   have h1 := weights_len ks
   simp only [weight] at hw
   exact ⟨by omega, by omega, fun i k hik => by have := weight_kid hik; omega⟩
  obtain ⟨hbl2, hkl2, hkw⟩ := hwb
  have Hkw := h_ hkw
  have Hbl2 := h_ hbl2
  have HXA := h_ hxa
  have Hxs := h_ hxs
  obtain ⟨spa, cpa, rfl, _, _, _⟩ := bytes_open hxa
  unfold dcells
  obtain ⟨w1, hw1⟩ := exq (w.alloc (.cells #[.int .i64 c, .int .i64 t, .bool md, .slice spa bs.length cpa, .slice sa ks.length na] 25))
  obtain ⟨w2, hw2⟩ := exq (w1.alloc (.cells #[.int .i64 0, .int .i64 0, .bool false, .slice none 0 0, .slice none 0 0] 33))
  obtain ⟨w3, hw3⟩ := exq (w2.alloc (.cells #[.int .i64 c, .int .i64 t, .bool md, .slice spa bs.length cpa, .slice none 0 0] 33))
  have hb1 := allocB hw1
  have hb2 := allocB hw2
  have hb3 := allocB hw3
  have s1 : w1.heap.size = w.heap.size + 1 := by rw [← hw1]; simp
  have s2 : w2.heap.size = w1.heap.size + 1 := by rw [← hw2]; simp
  have s3 : w3.heap.size = w2.heap.size + 1 := by rw [← hw3]; simp
  have hc1 : CellsAt w1 w.heap.size 0 (dcells c t md (.slice spa bs.length cpa) (.slice sa ks.length na)) := by rw [← hw1]; exact cells_new w _ 25
  have HA : Hid (CellsAt w3 w.heap.size 0 (dcells c t md (.slice spa bs.length cpa) (.slice sa ks.length na))) := (hc1.below hb2).below hb3
  have HA2 : Hid (CellsAt w2 w.heap.size 0 (dcells c t md (.slice spa bs.length cpa) (.slice sa ks.length na))) := hc1.below hb2
  have hO : w3.heap[w2.heap.size]? = some (.cells #[.int .i64 c, .int .i64 t, .bool md, .slice spa bs.length cpa, .slice none 0 0] 33 (0, 0)) := by rw [← hw3]; exact heap_alloc_new w2 _
  have hR2 : w2.heap[w1.heap.size]? = some (.cells #[.int .i64 0, .int .i64 0, .bool false, .slice none 0 0, .slice none 0 0] 33 (0, 0)) := by rw [← hw2]; exact heap_alloc_new w1 _
  have HR : Hid (w3.heap[w1.heap.size]? = some (.cells #[.int .i64 0, .int .i64 0, .bool false, .slice none 0 0, .slice none 0 0] 33 (0, 0))) := by show _ = _; rw [hb3.block w1.heap.size (by omega)]; exact hR2
  have Hb03 := h_ (hb1.trans ((hb2.mono (Nat.le_refl _)).trans (hb3.mono (by omega)) |>.mono hb1.size))
  obtain ⟨a0, a1, a2, a3, a4⟩ := HA2.five0
  obtain ⟨b0, b1, b2, b3, b4⟩ := HA.five0
  obtain ⟨L, hL⟩ := exq bs.length
  obtain ⟨K, hK⟩ := exq ks.length
  obtain ⟨A, hA⟩ := exq w.heap.size
  obtain ⟨R, hR⟩ := exq w1.heap.size
  obtain ⟨O, hO'⟩ : ∃ O, w2.heap.size = O := ⟨_, rfl⟩
  have Hsz : Hid (w.heap.size = A ∧ R = A + 1 ∧ O = A + 2 ∧ w3.heap.size = A + 3) := ⟨hA, by omega, by omega, by omega⟩
  have HK : Hid (ks.length = K) := hK
  have HL : Hid (bs.length = L) := hL
  have HKA := h_ hka
  have HO : Hid (w3.heap[O]? = some (.cells #[.int .i64 c, .int .i64 t, .bool md, .slice spa bs.length cpa, .slice none 0 0] 33 (0, 0))) := by show _ = _; rw [← hO']; exact hO
  simp only [hL, hK, hA, hR] at hw1 hw2 hw3 HR HO a0 a1 a2 a3 a4 b0 b1 b2 b3 b4 hkl2 HXA Hxs
  have Hw3 := h_ hw3
  rw [← hw3] at b4
  clear s1 s2 s3 hb1 hb2 hb3 hc1 hR2 hO hka hkw hxa hxs hbl hkl hw hbl2 hL hK HA HA2 hw3 b0 b1 b2 b3
  go_enter Tryz.func13, Tryz.ntmps13
  rw [u_ HL, u_ HK]
  go_wp2
  rw [u_ Hw3]
  clear a0 a1 a2 a3 a4 b4 Hw3 hw1 hw2 hA hR hO'
  have HM0 : Hid (Made 33 (fun b => (S b ∧ b < A) ∨ A ≤ b) n w w3 O R c t md (.slice spa L cpa) (.slice none 0 0) ks 0 []) := by
   obtain ⟨z1, z2, z3, z4⟩ := u_ Hsz
   refine ⟨?_, u_ HR, ownd_nil _ _ _, fun j k hj => by omega, by omega, by omega, u_ Hb03⟩
   exact u_ HO
  have Hkn : Hid (∀ (i : Nat) (wr : World), i < K → Below w.heap.size w wr → ∃ (k : DV) (ba oa : Nat) (ds : List Value), sa = some ⟨ba, oa, none⟩ ∧ ks[i]? = some k ∧ weight k ≤ 1000000 ∧ CellsAt wr ba (oa + i * 5) ds ∧ VAt n (fun b => S b ∧ b < A) wr ds k) := fun i wr hi hb => by
   have hne : ks ≠ [] := fun e => by have := u_ HK; rw [e] at this; simp at this; omega
   have hi2 : i < ks.length := by have := u_ HK; omega
   have hik : ks[i]? = some ks[i] := List.getElem?_eq_getElem hi2
   obtain ⟨ba, oa, e1, _, f1⟩ := u_ HKA hne
   obtain ⟨ds, g1, v1⟩ := f1 i _ hik
   exact ⟨_, ba, oa, ds, e1, hik, u_ Hkw i _ hik, g1.below hb, (v1.mono (S' := fun b => S b ∧ b < A) fun b hb hlt => ⟨hb, by have := Hsz.1; omega⟩).below hb⟩
  clear HKA Hkw
  go_loopw [18] (fun ii wr => ∃ (i : Nat) (sk : Option Addr) (ck : Nat) (xs : List Value), i ≤ K ∧ ii = .int .i64 (i : Int) ∧ Hid (Made 33 (fun b => (S b ∧ b < A) ∨ A ≤ b) n w wr O R c t md (.slice spa L cpa) (.slice sk i ck) ks i xs)) (fun ii _ => K - (intOf ii).toNat)
  case atStart => exact ⟨0, none, 0, [], by omega, rfl, HM0⟩
  case round =>
   obtain ⟨i, sk, ck, xs, hi, rfl, HM⟩ := hrel
   by_cases hlt : i < K
   ·obtain ⟨k, ba, oa, ds, rfl, hik, hkw, g1, v1⟩ := u_ Hkn i wr hlt HM.b
    obtain ⟨p1, q1, p2, q2, rfl⟩ := v1.form
    have Hv1 := h_ v1
    obtain ⟨x0, x1, x2, x3, x4⟩ := g1.five
    have Hkw2 := h_ hkw
    have Hik := h_ hik
    clear g1 v1 hkw hik Hkn HM0
    obtain ⟨d1, d1n⟩ := ltVV i K
    have i0 : (0 : Int) ≤ (i : Int) := by omega
    have i1 : (i : Int) < (K : Int) := by omega
    have ib : (i : Int) ≤ 1000000 := by omega
    have HV1 : Hid (∀ w', Below wr.heap.size wr w' → VAt n (fun b => S b ∧ b < A) w' (dcells k.cls k.tag k.made (.slice p1 k.bytes.length q1) (.slice p2 k.kids.length q2)) k) := fun w' hb => Hv1.below hb
    obtain ⟨kc, kt, km, kl, kk, hkc, hkt, hkm, hkl3, hkk⟩ := ex5 k
    simp only [hkc, hkt, hkm, hkl3, hkk] at x0 x1 x2 x3 x4 HV1
    clear hkc hkt hkm hkl3 hkk Hv1
    obtain ⟨w5, hw5⟩ := exq (wr.alloc (.cells #[.int .i64 kc, .int .i64 kt, .bool km, .slice p1 kl q1, .slice p2 kk q2] 25))
    have hb5 := allocB hw5
    have hc5 : CellsAt w5 wr.heap.size 0 (dcells kc kt km (.slice p1 kl q1) (.slice p2 kk q2)) := by rw [← hw5]; exact cells_new wr _ 25
    obtain ⟨y0, y1, y2, y3, y4⟩ := hc5.five0
    have Hb5 := h_ hb5
    have HM5 := h_ (HM.below hb5)
    clear hb5 hc5
    obtain ⟨C, hC⟩ := exq wr.heap.size
    rw [hC] at y0 y1 y2 y3 y4
    have o4 : w5.cell? ⟨O, 4, none⟩ = some (.slice sk i ck) := by rw [cell_of_row _ _ _ _ 33 (0, 0) (u_ HM5).out]; rfl
    have of : w5.frozen? ⟨O, 4, none⟩ = false := frozen_of_row _ _ _ _ 33 (u_ HM5).out
    go_wp2
    clear hC hw5 x0 x1 x2 x3 x4
    have H5d : Hid (Below wr.heap.size wr w5.drew) := Hb5.drew
    have Hkl : Hid (i ≤ 1073741824 ∧ O < w5.heap.size) := ⟨by omega, HM5.lt⟩
    go_region_law (first
     | (refine step_append_five Erv rfl _ _ rfl (O + 1) (.slice sk i ck) i xs (dcells k.cls k.tag k.made (.slice r1 k.bytes.length t1) (.slice r2 k.kids.length t2)) (by simp [Act.eval]) HM7.own w6.heap.size 0 1 (by simp [Act.eval]) rfl (cells_new w6 _ 33) (u_ H1c) (u_ Hsz7) Hkl.1 ?_
        intro v7 w7 hown7 hg7 hor7
        obtain ⟨s7, c7, rfl, _, _⟩ := hown7.form
        have ho7 : w7.heap[O]? = some (.cells #[.int .i64 c, .int .i64 t, .bool md, .slice spa L cpa, .slice sk i ck] 33 (0, 0)) := by { rw [hg7.block O HM7.lt (fun e => by have := (OwnD.block HM7.own O e.symm).1; omega)]; exact (u_ HM7).out }
        have o7 : w7.cell? ⟨O, 4, none⟩ = some (.slice sk i ck) := by { rw [cell_of_row _ _ _ _ 33 (0, 0) ho7]; rfl }
        have of7 : w7.frozen? ⟨O, 4, none⟩ = false := frozen_of_row _ _ _ _ 33 ho7
        have HO7 := h_ hown7
        have HG7 := h_ hg7
        have Hor7 := h_ hor7
        clear hown7 hg7 hor7 ho7)
     | (go_simp; go_at_call 13; refine (u_ Hih (fun b => S b ∧ b < A) k _ (dcells kc kt km (.slice p1 kl q1) (.slice p2 kk q2)) (u_ HV1 _ (u_ H5d)) (u_ Hkw2)).mono ?_
        rintro e w6 ⟨es, rfl, hv6, hb6⟩
        obtain ⟨r1, t1, r2, t2, rfl⟩ := hv6.form
        have HV6 := h_ hv6
        have HB6 := h_ hb6
        have HM6 := h_ (HM5.below ((Below.refl _ _).drew.trans hb6))
        have o6 : w6.cell? ⟨O, 4, none⟩ = some (.slice sk i ck) := by { rw [cell_of_row _ _ _ _ 33 (0, 0) (u_ HM6).out]; rfl }
        have HM7 := h_ (HM6.below ((Below.refl _ _).alloc (Nat.le_refl _) (.cells (dcells k.cls k.tag k.made (.slice r1 k.bytes.length t1) (.slice r2 k.kids.length t2)).toArray 33)))
        have o6b : (w6.alloc (.cells (dcells k.cls k.tag k.made (.slice r1 k.bytes.length t1) (.slice r2 k.kids.length t2)).toArray 33)).cell? ⟨O, 4, none⟩ = some (.slice sk i ck) := by { rw [cell_of_row _ _ _ _ 33 (0, 0) (u_ HM7).out]; rfl }
        unfold dcells at o6b
        have H1c : Hid (∀ u ∈ dcells k.cls k.tag k.made (.slice r1 k.bytes.length t1) (.slice r2 k.kids.length t2), u.oneCell' = true) := by { intro u hu; simp only [dcells, List.mem_cons, List.not_mem_nil, or_false] at hu; rcases hu with rfl | rfl | rfl | rfl | rfl <;> rfl }
        have Hsz7 : Hid (O + 1 ≤ (w6.alloc (.cells (dcells k.cls k.tag k.made (.slice r1 k.bytes.length t1) (.slice r2 k.kids.length t2)).toArray 33)).heap.size) := HM7.lt
        clear hv6 hb6
        unfold dcells
        go_simp))
    all_goals
     have HF : Hid (VAt n (Free (fun b => (S b ∧ b < A) ∨ A ≤ b) O R (.slice sk i ck)) w6 (dcells k.cls k.tag k.made (.slice r1 k.bytes.length t1) (.slice r2 k.kids.length t2)) k) := by
      refine HV6.mono fun b hb hlt => ?_
      obtain ⟨z1, z2, z3, z4⟩ := u_ Hsz
      have z5 : w5.drew.heap.size = w5.heap.size := rfl
      have z6 := Hkl.2
      have z7 : ∀ g, (Value.slice sk i ck).ownBlock = some g → O + 1 ≤ g ∧ g < w5.heap.size := OwnD.block HM5.own
      rw [z5] at hb
      refine ⟨?_, ?_, ?_, fun e => ?_⟩
      ·rcases hb with hb | hb
       ·exact Or.inl hb
       ·exact Or.inr (by omega)
      ·rcases hb with hb | hb
       ·have := hb.2; omega
       ·omega
      ·rcases hb with hb | hb
       ·have := hb.2; omega
       ·omega
      ·have := z7 b e
       rcases hb with hb | hb
       ·have := hb.2; omega
       ·omega
     have HM8 := h_ (Made.add (u_ HM7) (u_ Hik) (HF.below ((Below.refl _ _).alloc (Nat.le_refl _) _)) (u_ HO7) (u_ HG7) (u_ Hor7))
     clear HF HV6 HB6 HM6 HM7 o6 o6b H1c Hsz7 o7 of7 HO7 HG7 Hor7 y0 y1 y2 y3 y4 o4 of HM5 HV1 Hih
     go_wp2
     go_roundw
     case rel =>
      first
       | exact ⟨i + 1, s7, c7, _, by omega, by go_num, HM8⟩
       | ((repeat apply Exists.intro); exact ⟨⟨i + 1, s7, c7, _, by omega, by go_num, HM8⟩, rfl⟩)
     case measure => simp [intOf]; omega
   ·obtain rfl : i = K := by omega
    have d1 : decide ((i : Int) < (i : Int)) = false := by simp
    have HMk : Hid (Made 33 (fun b => (S b ∧ b < A) ∨ A ≤ b) n w wr O R c t md (.slice spa L cpa) (.slice sk i ck) ks ks.length xs) := by rw [u_ HK]; exact u_ HM
    have HD := h_ (Made.done (bs := bs) (u_ HMk) (u_ HXA) (fun hne k hk => Or.inl ⟨u_ Hxs hne k hk, by have h1 := ValsAt.old (u_ HXA) (by simpa using hne) k hk; have := Hsz.1; omega⟩) (fun b hb => Or.inr (by have := Hsz.1; omega)) ⟨by have := u_ HL; have := u_ Hbl2; omega, by have := u_ HK; omega⟩ #[.int .i64 c, .int .i64 t, .bool md, .slice spa L cpa, .slice sk i ck])
    have HO9 := h_ (u_ HMk).out
    have HR9 := h_ HMk.res
    have H5 : Hid ((#[.int .i64 c, .int .i64 t, .bool md, .slice spa L cpa, .slice sk i ck] : Array Value).all (·.oneCell') = true) := by show _ = true; simp [Value.oneCell']
    have hsz5 : (Tryz.prog.info? 33).map (·.size) = some 5 := by kernel_rfl
    clear HMk HM HM0 Hkn Hih
    go_wp2_with (first | (refine wpList_load_row rfl 33 _ rfl O rfl 33 _ (0, 0) _ (u_ HO9) Tryz.underlying33 rfl hsz5 ?_) | (refine wpList_store_row rfl 33 _ _ rfl R _ rfl rfl 33 _ (u_ HR9) hsz5 rfl (u_ H5) ?_))
    refine bodyPost_ret (results_cell_row Tryz.results13 _ _ R 33 _ (0, 0) _ rfl (setRow_heap wr R _ _ 33 (0, 0) (u_ HR9)) Tryz.underlying33 rfl hsz5) rfl ⟨_, rfl, HD.1.mono fun b hb _ => ?_, HD.2⟩
    rcases hb with hb | hb
    ·exact Or.inl hb.1
    ·exact Or.inr (by have := Hsz.1; omega)
theorem dsame_any (S S' : Nat → Prop) : ∀ (n m : Nat) (v : DV) (w : World) (ca cb : List Value), VAt n S w ca v → VAt m S' w cb v → weight v ≤ 1000000 →
  Calls Tryz.prog 16 #[.agg ca.toArray, .agg cb.toArray] w fun e w' => e = .returned (.bool true) ∧ Below w.heap.size w w'
 | 0, _, _, _, _, _, h, _, _ => h.elim
 | _ + 1, 0, _, _, _, _, _, h, _ => h.elim
 | n + 1, m + 1, v, w, ca, cb, ha, hb, hw => by
  have Hih := h_ (dsame_any S S' n m)
  obtain ⟨c, t, md, bs, ks⟩ := v
  obtain ⟨xa, sa, na, rfl, hxa, _, _, _, _, hka⟩ := ha
  obtain ⟨xb, sb, nb, rfl, hxb, _, _, _, _, hkb⟩ := hb
  simp only [DV.cls, DV.tag, DV.made, DV.bytes, DV.kids] at *
  have hwb : bs.length ≤ 1000000 ∧ ks.length ≤ 1000000 ∧ ∀ (i : Nat) (k : DV), ks[i]? = some k → weight k ≤ 1000000 := by
   have h1 := weights_len ks
   simp only [weight] at hw
   exact ⟨by omega, by omega, fun i k hik => by have := weight_kid hik; omega⟩
  obtain ⟨hbl, hkl, hkw⟩ := hwb
  obtain ⟨spa, cpa, rfl, _, _, _⟩ := bytes_open hxa
  obtain ⟨spb, cpb, rfl, _, _, _⟩ := bytes_open hxb
  unfold dcells
  obtain ⟨w1, hw1⟩ := exq (w.alloc (.cells #[.int .i64 c, .int .i64 t, .bool md, .slice spa bs.length cpa, .slice sa ks.length na] 25))
  obtain ⟨w2, hw2⟩ := exq (w1.alloc (.cells #[.int .i64 c, .int .i64 t, .bool md, .slice spb bs.length cpb, .slice sb ks.length nb] 33))
  have hb1 := allocB hw1
  have hb2 := allocB hw2
  have HA : Hid (CellsAt w2 w.heap.size 0 (dcells c t md (.slice spa bs.length cpa) (.slice sa ks.length na))) := CellsAt.below (by rw [← hw1]; exact cells_new w _ 25) hb2
  have HB : Hid (CellsAt w2 w1.heap.size 0 (dcells c t md (.slice spb bs.length cpb) (.slice sb ks.length nb))) := by rw [← hw2]; exact cells_new w1 _ 33
  have Hb := h_ (hb1.trans (hb2.mono hb1.size))
  have HXA := h_ (hxa.below (u_ Hb))
  have HXB := h_ (hxb.below (u_ Hb))
  have HKA := h_ hka
  have HKB := h_ hkb
  have Hkw := h_ hkw
  have Hlt1 : Hid (w.heap.size < w2.heap.size ∧ w1.heap.size < w2.heap.size) := by
   have e1 : w1.heap.size = w.heap.size + 1 := by rw [← hw1]; simp
   have e2 : w2.heap.size = w1.heap.size + 1 := by rw [← hw2]; simp
   exact ⟨by omega, by omega⟩
  obtain ⟨a0, a1, a2, a3, a4⟩ := HA.five0
  obtain ⟨b0, b1, b2, b3, b4⟩ := HB.five0
  obtain ⟨L, hL⟩ := exq bs.length
  obtain ⟨K, hK⟩ := exq ks.length
  have HK : Hid (ks.length = K) := hK
  simp only [hL, hK] at hw1 hw2 HA HB HXA HXB a3 a4 b3 b4 hkl ⊢
  obtain ⟨A, hA⟩ := exq w.heap.size
  obtain ⟨B, hB⟩ := exq w1.heap.size
  simp only [hA, hB] at HA HB Hlt1 a0 a1 a2 a3 a4 b0 b1 b2 b3 b4
  have Hs := h_ (same_any w2 _ _ bs bs (u_ HXA) (u_ HXB) (by omega))
  simp only [decide_true] at Hs
  clear hka hkb hkw hxa hxb hb1 hb2 hL hK hw
  go_enter Tryz.func16, Tryz.ntmps16
  go_wp2_with fail
  refine Hs.mono ?_
  rintro e w3 ⟨rfl, hb3⟩
  have HA3 := h_ (HA.below hb3)
  have HB3 := h_ (HB.below hb3)
  have Hb03 := h_ (Hb.trans (hb3.mono Hb.size))
  have Hlt3 : Hid (A < w3.heap.size ∧ B < w3.heap.size) := ⟨Nat.lt_of_lt_of_le Hlt1.1 hb3.size, Nat.lt_of_lt_of_le Hlt1.2 hb3.size⟩
  clear hb3 a0 a1 a2 a3 a4 b0 b1 b2 b3 b4 HA HB Hs hw1 hw2 hA hB HXA HXB Hlt1
  obtain ⟨a0, a1, a2, a3, a4⟩ := HA3.five0
  obtain ⟨b0, b1, b2, b3, b4⟩ := HB3.five0
  go_wp2
  have Hkn : Hid (∀ i, i < K → ∃ (k : DV) (ba oa bb ob : Nat) (ds es : List Value), sa = some ⟨ba, oa, none⟩ ∧ sb = some ⟨bb, ob, none⟩ ∧ weight k ≤ 1000000 ∧ CellsAt w3 ba (oa + i * 5) ds ∧ VAt n S w3 ds k ∧ CellsAt w3 bb (ob + i * 5) es ∧ VAt m S' w3 es k) := fun i hi => by
   have hne : ks ≠ [] := fun e => by have := u_ HK; rw [e] at this; simp at this; omega
   have hi2 : i < ks.length := by have := u_ HK; omega
   have hik : ks[i]? = some ks[i] := List.getElem?_eq_getElem hi2
   obtain ⟨ba, oa, e1, _, f1⟩ := u_ HKA hne
   obtain ⟨bb, ob, e2, _, f2⟩ := u_ HKB hne
   obtain ⟨ds, g1, v1⟩ := f1 i _ hik
   obtain ⟨es, g2, v2⟩ := f2 i _ hik
   exact ⟨_, ba, oa, bb, ob, ds, es, e1, e2, u_ Hkw i _ hik, g1.below (u_ Hb03), v1.below (u_ Hb03), g2.below (u_ Hb03), v2.below (u_ Hb03)⟩
  clear HKA HKB Hkw HK Hb a0 a1 a2 a3 a4 b0 b1 b2 b3 b4
  go_loopw [46] (fun ii wr => ∃ i : Nat, i ≤ K ∧ ii = .int .i64 (i : Int) ∧ Below w3.heap.size w3 wr) (fun ii _ => K - (intOf ii).toNat)
  case atStart => exact ⟨0, by omega, rfl, Below.refl _ _⟩
  case round =>
   obtain ⟨i, hi, rfl, hbr⟩ := hrel
   by_cases hlt : i < K
   ·obtain ⟨k, ba, oa, bb, ob, ds, es, rfl, rfl, hkw, g1, v1, g2, v2⟩ := u_ Hkn i hlt
    obtain ⟨p1, q1, p2, q2, rfl⟩ := v1.form
    obtain ⟨r1, t1, r2, t2, rfl⟩ := v2.form
    have Hv1 := h_ (v1.below hbr)
    have Hv2 := h_ (v2.below hbr)
    have Hg2 := h_ (g2.below hbr)
    have HB4 := h_ (HB3.below hbr)
    obtain ⟨x0, x1, x2, x3, x4⟩ := (g1.below hbr).five
    have Hbr := h_ hbr
    have Hkw2 := h_ hkw
    clear g1 v1 g2 v2 hbr hkw Hkn
    obtain ⟨d1, d1n⟩ := ltVV i K
    have i0 : (0 : Int) ≤ (i : Int) := by omega
    have i1 : (i : Int) < (K : Int) := by omega
    have ib : (i : Int) ≤ 1000000 := by omega
    have HV1 : Hid (∀ w', Below wr.heap.size wr w' → VAt n S w' (dcells k.cls k.tag k.made (.slice p1 k.bytes.length q1) (.slice p2 k.kids.length q2)) k ∧ VAt m S' w' (dcells k.cls k.tag k.made (.slice r1 k.bytes.length t1) (.slice r2 k.kids.length t2)) k) := fun w' hb => ⟨Hv1.below hb, Hv2.below hb⟩
    have HF : Hid (∀ w', Below wr.heap.size wr w' → CellsAt w' B 0 (dcells c t md (.slice spb L cpb) (.slice (some ⟨bb, ob, none⟩) K nb)) ∧ CellsAt w' bb (ob + i * 5) (dcells k.cls k.tag k.made (.slice r1 k.bytes.length t1) (.slice r2 k.kids.length t2))) := fun w' hb => ⟨HB4.below hb, Hg2.below hb⟩
    obtain ⟨kc, kt, km, kl, kk, hkc, hkt, hkm, hkl2, hkk⟩ := ex5 k
    simp only [hkc, hkt, hkm, hkl2, hkk] at x0 x1 x2 x3 x4 HV1 HF
    clear hkc hkt hkm hkl2 hkk Hv1 Hv2 HB4 Hg2
    obtain ⟨w5, hw5⟩ := exq (wr.alloc (.cells #[.int .i64 kc, .int .i64 kt, .bool km, .slice p1 kl q1, .slice p2 kk q2] 25))
    have hb5 := allocB hw5
    have hc5 : CellsAt w5 wr.heap.size 0 (dcells kc kt km (.slice p1 kl q1) (.slice p2 kk q2)) := by rw [← hw5]; exact cells_new wr _ 25
    obtain ⟨y0, y1, y2, y3, y4⟩ := hc5.five0
    obtain ⟨_, _, _, _, z4⟩ := (u_ HF w5 hb5).1.five0
    obtain ⟨e0, e1, e2, e3, e4⟩ := (u_ HF w5 hb5).2.five
    have Hb5 := h_ hb5
    have Hc5 := h_ hc5
    have HD5 := h_ (u_ HF w5 hb5)
    clear hb5 hc5 HF
    obtain ⟨C, hC⟩ := exq wr.heap.size
    rw [hC] at y0 y1 y2 y3 y4 Hc5
    go_wp2
    clear hC hw5
    go_region_held3 (fun w' => w'.cell? ⟨C, 0, none⟩ = some (.int .i64 kc) ∧ w'.cell? ⟨C, 1, none⟩ = some (.int .i64 kt) ∧ w'.cell? ⟨C, 2, none⟩ = some (.bool km) ∧ w'.cell? ⟨C, 3, none⟩ = some (.slice p1 kl q1) ∧ w'.cell? ⟨C, 4, none⟩ = some (.slice p2 kk q2) ∧ w'.cell? ⟨B, 4, none⟩ = some (.slice (some ⟨bb, ob, none⟩) K nb) ∧ w'.cell? ⟨bb, ob + i * 5, none⟩ = some (.int .i64 kc) ∧ w'.cell? ⟨bb, ob + i * 5 + 1, none⟩ = some (.int .i64 kt) ∧ w'.cell? ⟨bb, ob + i * 5 + 2, none⟩ = some (.bool km) ∧ w'.cell? ⟨bb, ob + i * 5 + 3, none⟩ = some (.slice r1 kl t1) ∧ w'.cell? ⟨bb, ob + i * 5 + 4, none⟩ = some (.slice r2 kk t2)) (go_keep)
     ((go_at_call 16; refine (u_ Hih k _ (dcells kc kt km (.slice p1 kl q1) (.slice p2 kk q2)) (dcells kc kt km (.slice r1 kl t1) (.slice r2 kk t2)) (u_ HV1 _ (Hb5.drew)).1 (u_ HV1 _ (Hb5.drew)).2 (u_ Hkw2)).mono ?_
       rintro e w6 ⟨rfl, hb6⟩
       have HB6 := h_ (Hb5.drew.trans (hb6.mono Hb5.size))
       obtain ⟨y0, y1, y2, y3, y4⟩ := (CellsAt.below (a := w5.drew) (u_ Hc5) hb6).five0
       obtain ⟨_, _, _, _, z4⟩ := (CellsAt.below (a := w5.drew) HD5.1 hb6).five0
       obtain ⟨e0, e1, e2, e3, e4⟩ := (CellsAt.below (a := w5.drew) HD5.2 hb6).five
       clear hb6))
    go_wp2
    go_roundw
    case rel =>
     first
      | exact ⟨i + 1, by omega, by go_num, Hbr.trans (HB6.mono Hbr.size)⟩
      | ((repeat apply Exists.intro); exact ⟨⟨i + 1, by omega, by go_num, Hbr.trans (HB6.mono Hbr.size)⟩, rfl⟩)
    case measure => simp [intOf]; omega
   ·obtain rfl : i = K := by omega
    have d1 : decide ((i : Int) < (i : Int)) = false := by simp
    have Hbr := h_ hbr
    clear Hkn hbr
    go_wp2
    go_ret
    exact ⟨rfl, Hb03.trans (Hbr.mono Hb03.size)⟩
theorem spent_any (S : Nat → Prop) : ∀ (n : Nat) (v : DV) (w : World) (cs : List Value) (d l : Nat), VAt n S w cs v → d ≤ 30 → l ≤ 5000 →
  Calls Tryz.prog 10 #[.agg cs.toArray, .int .i64 (d : Int), .int .i64 (l : Int)] w fun e w' => ∃ r : Int, e = .returned (.int .i64 r) ∧ -1 ≤ r ∧ r ≤ l ∧ (0 ≤ r → (weight v : Int) + r ≤ l) ∧ Below w.heap.size w w'
 | 0, _, _, _, _, _, h, _, _ => h.elim
 | n + 1, v, w, cs, d, l, hv, hd, hl => by
  have Hih := h_ (spent_any S n)
  obtain ⟨c, t, md, bs, ks⟩ := v
  obtain ⟨xa, sa, na, rfl, hxa, _, ⟨hbl, hkl⟩, _, _, hka⟩ := hv
  simp only [DV.cls, DV.tag, DV.made, DV.bytes, DV.kids] at *
  obtain ⟨spa, cpa, rfl, _, _, _⟩ := bytes_open hxa
  have Hw : Hid (weight (.mk c t md bs ks) = 1 + bs.length + weights ks) := by show _ = _; simp only [weight]
  obtain ⟨W, hW⟩ := exq (weight (.mk c t md bs ks))
  rw [hW] at Hw ⊢
  unfold dcells
  obtain ⟨w1, hw1⟩ := exq (w.alloc (.cells #[.int .i64 c, .int .i64 t, .bool md, .slice spa bs.length cpa, .slice sa ks.length na] 25))
  have hb1 := allocB hw1
  have HA : Hid (CellsAt w1 w.heap.size 0 (dcells c t md (.slice spa bs.length cpa) (.slice sa ks.length na))) := by rw [← hw1]; exact cells_new w _ 25
  have Hb := h_ hb1
  have HKA := h_ hka
  obtain ⟨a0, a1, a2, a3, a4⟩ := HA.five0
  obtain ⟨L, hL⟩ := exq bs.length
  obtain ⟨K, hK⟩ := exq ks.length
  have HK : Hid (ks.length = K) := hK
  obtain ⟨A, hA⟩ := exq w.heap.size
  simp only [hL, hK] at hw1 HA a3 a4 hkl hbl Hw ⊢
  simp only [hA] at HA a0 a1 a2 a3 a4
  clear hka hxa hb1 hL hK hW
  go_enter Tryz.func10, Tryz.ntmps10
  by_cases hd0 : d = 0
  ·subst hd0
   clear HKA Hih HK HA
   go_wp2
   go_ret
   exact ⟨-1, rfl, by omega, by omega, by omega, u_ Hb⟩
  have e1 : ((d : Int) == 0) = false := by simp; omega
  by_cases hl0 : l = 0
  ·subst hl0
   clear HKA Hih HK HA
   go_wp2
   go_ret
   exact ⟨-1, rfl, by omega, by omega, by omega, u_ Hb⟩
  have e2 : decide ((l : Int) ≤ 0) = false := by simp; omega
  by_cases hlL : l ≤ L
  ·obtain ⟨e3, e3n⟩ := leVV l L
   clear HKA Hih HK HA
   go_wp2
   go_ret
   exact ⟨-1, rfl, by omega, by omega, by omega, u_ Hb⟩
  obtain ⟨e3, e3n⟩ := leVVf l L
  obtain ⟨l1, hl1⟩ : ∃ l1 : Nat, l = l1 + 1 + L := ⟨l - 1 - L, by omega⟩
  have s1 : (l : Int) - (1 + (L : Int)) = (l1 : Int) := by omega
  have lb : (L : Int) ≤ 5000 := by omega
  have l1b : l1 ≤ 5000 := by omega
  have Hdp : Hid (0 < d) := Nat.pos_of_ne_zero hd0
  have Hl1 := h_ hl1
  clear hl1
  have lbl : (l : Int) ≤ 5000 := by omega
  have Hkn : Hid (∀ i, i < K → ∃ (k : DV) (ba oa : Nat) (ds : List Value), sa = some ⟨ba, oa, none⟩ ∧ weights (ks.take (i + 1)) = weights (ks.take i) + weight k ∧ CellsAt w1 ba (oa + i * 5) ds ∧ VAt n S w1 ds k) := fun i hi => by
   have hne : ks ≠ [] := fun e => by have := u_ HK; rw [e] at this; simp at this; omega
   have hi2 : i < ks.length := by have := u_ HK; omega
   have hik : ks[i]? = some ks[i] := List.getElem?_eq_getElem hi2
   obtain ⟨ba, oa, e1, _, f1⟩ := u_ HKA hne
   obtain ⟨ds, g1, v1⟩ := f1 i _ hik
   exact ⟨_, ba, oa, ds, e1, weights_take ks i _ hik, g1.below (u_ Hb), v1.below (u_ Hb)⟩
  have HKend : Hid (weights (ks.take K) = weights ks) := by show _ = _; rw [List.take_of_length_le (by have := u_ HK; omega)]
  have HK0 : Hid (weights (ks.take 0) = 0) := by show _ = _; simp [weights]
  clear HKA HK hd0 hl0 hlL HA
  go_wp2
  clear a0 a1 a2 a3 a4 hw1 hA
  go_loopw [2, 31] (fun ll ii wr => ∃ i m : Nat, i ≤ K ∧ ii = .int .i64 (i : Int) ∧ ll = .int .i64 (m : Int) ∧ m ≤ l1 ∧ Hid (weights (ks.take i) + m ≤ l1) ∧ Below w1.heap.size w1 wr) (fun _ ii _ => K - (intOf ii).toNat)
  case atStart => exact ⟨0, l1, by omega, rfl, by first | rfl | rw [s1], by omega, by show _ ≤ _; rw [u_ HK0]; omega, Below.refl _ _⟩
  case round =>
   obtain ⟨i, m, hi, rfl, rfl, hm, Hm, hbr⟩ := hrel
   by_cases hlt : i < K
   ·obtain ⟨k, ba, oa, ds, rfl, hwk, g1, v1⟩ := u_ Hkn i hlt
    obtain ⟨p1, q1, p2, q2, rfl⟩ := v1.form
    have Hv1 := h_ (v1.below hbr)
    obtain ⟨x0, x1, x2, x3, x4⟩ := (g1.below hbr).five
    have Hbr := h_ hbr
    have Hwk := h_ hwk
    clear g1 v1 hbr hwk Hkn HKend HK0
    obtain ⟨d1, d1n⟩ := ltVV i K
    have i0 : (0 : Int) ≤ (i : Int) := by omega
    have i1 : (i : Int) < (K : Int) := by omega
    have HV1 : Hid (∀ w', Below wr.heap.size wr w' → VAt n S w' (dcells k.cls k.tag k.made (.slice p1 k.bytes.length q1) (.slice p2 k.kids.length q2)) k) := fun w' hb => Hv1.below hb
    obtain ⟨kc, kt, km, kl, kk, hkc, hkt, hkm, hkl2, hkk⟩ := ex5 k
    simp only [hkc, hkt, hkm, hkl2, hkk] at x0 x1 x2 x3 x4 HV1
    clear hkc hkt hkm hkl2 hkk Hv1
    obtain ⟨w5, hw5⟩ := exq (wr.alloc (.cells #[.int .i64 kc, .int .i64 kt, .bool km, .slice p1 kl q1, .slice p2 kk q2] 25))
    have hb5 := allocB hw5
    have hc5 : CellsAt w5 wr.heap.size 0 (dcells kc kt km (.slice p1 kl q1) (.slice p2 kk q2)) := by rw [← hw5]; exact cells_new wr _ 25
    obtain ⟨y0, y1, y2, y3, y4⟩ := hc5.five0
    have Hb5 := h_ hb5
    clear hb5 hc5
    obtain ⟨C, hC⟩ := exq wr.heap.size
    rw [hC] at y0 y1 y2 y3 y4
    obtain ⟨d', hd'⟩ : ∃ d' : Nat, d = d' + 1 := ⟨d - 1, by have := u_ Hdp; omega⟩
    have sd : (d : Int) - 1 = (d' : Int) := by omega
    have hdb : d' ≤ 30 := by omega
    have Hc := h_ (u_ Hih k w5 (dcells kc kt km (.slice p1 kl q1) (.slice p2 kk q2)) d' m (u_ HV1 w5 (u_ Hb5)) hdb (by omega))
    unfold dcells at Hc
    clear hd' HV1 Hih
    go_wp2_with fail
    refine Hc.mono ?_
    rintro e w6 ⟨r, rfl, hr1, hr2, hr3, hb6⟩
    have HB6 := h_ (Hb5.trans (hb6.mono Hb5.size))
    clear hb6 y0 y1 y2 y3 y4 x0 x1 x2 x3 x4 hw5 hC Hc
    by_cases hr0 : r < 0
    ·obtain rfl : r = -1 := by omega
     go_wp2
     go_ret
     exact ⟨-1, rfl, by omega, by omega, by omega, Hb.trans ((Hbr.trans (HB6.mono Hbr.size)).mono Hb.size)⟩
    ·obtain ⟨r, rfl⟩ : ∃ k : Nat, r = (k : Int) := ⟨r.toNat, by omega⟩
     have f1 : decide ((r : Int) < 0) = false := by simp
     have Hm2 : Hid (weights (ks.take (i + 1)) + r ≤ l1) := by show _ ≤ _; have h1 := u_ Hm; have h2 := hr3 (by omega); rw [u_ Hwk]; omega
     have hrl : r ≤ l1 := by omega
     clear hr3 hr1 hr2 hr0 Hm Hwk
     go_wp2
     go_roundw
     case rel =>
      first
       | exact ⟨i + 1, r, by omega, by go_num, rfl, hrl, Hm2, Hbr.trans (HB6.mono Hbr.size)⟩
       | ((repeat apply Exists.intro); exact ⟨⟨i + 1, r, by omega, by go_num, rfl, hrl, Hm2, Hbr.trans (HB6.mono Hbr.size)⟩, rfl⟩)
     case measure => simp [intOf]; omega
   ·obtain rfl : i = K := by omega
    have d1 : decide ((i : Int) < (i : Int)) = false := by simp
    have Hbr := h_ hbr
    clear Hkn hbr
    go_wp2
    go_ret
    refine ⟨(m : Int), rfl, by omega, by have := u_ Hl1; omega, fun _ => ?_, Hb.trans (Hbr.mono Hb.size)⟩
    have h1 := u_ Hm
    have h2 := u_ Hw
    have h3 := u_ Hl1
    rw [u_ HKend] at h1
    omega
end Go.Proofs.YtcofnockikninaaGreatDoor
