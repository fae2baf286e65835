/- Parts of the walk. -/
import Derived.Test.YtcofnockikninaaGreatDoorZaNum9
import Derived.Deep.RegionLaw
import Derived.Test.YtcofnockikninaaGreatDoorZaRA
namespace Go.Proofs.YtcofnockikninaaGreatDoor
open Go.RowKit
theorem fallsP_two (a b : Bs) (l : List Bs) : fallsP (a :: b :: l) = (lessP b a || fallsP (b :: l)) := rfl
section
variable {P : Program}
structure Elem5 (P : Program) (t e : TypeId) (z : Value) : Prop where
 under : P.underlying t = some (.slice e)
 info : ∃ i, P.info? e = some i ∧ i.zero = some z ∧ i.size = 5 ∧ i.bytes = 72
 five : z.cells.size = 5
def OwnD (e : TypeId) (w : World) (base : Nat) (v : Value) (n : Nat) (xs : List Value) : Prop := w.ownsRow base e 5 v n xs
theorem run_append_five {t e : TypeId} {z : Value} (E : Elem5 P t e z) (w : World) (base : Nat) (v : Value) (n : Nat) (xs ds : List Value) (hown : OwnD e w base v n xs) (ga go c : Nat) (hds : ds.length = 5) (hy : CellsAt w ga go ds) (h1 : ∀ u ∈ ds, u.oneCell' = true) (hb : base ≤ w.heap.size) (hlen : n ≤ 1073741824) (ty : TypeId) :
  ∃ v' w', (Builtin.append_ #[t, t] ty #[v, .slice (some ⟨ga, go, none⟩) 1 c]).run P w = .ok v' w' ∧ OwnD e w' base v' (n + 1) (xs ++ ds) ∧ w.grownBy w' v.ownBlock ∧ (v'.ownBlock = v.ownBlock ∨ v'.ownBlock = some w.heap.size) := by
 obtain ⟨hu, ⟨i, hi, hz, hsz, hby⟩, hfive⟩ := E
 have hbb : (n + 1) * i.bytes ≤ 140737488355328 := by rw [hby]; omega
 have hn : ∀ j u, ds[j]? = some u → w.cell? ((⟨ga, go, none⟩ : Addr).add j) = some u := by
  intro j u hu
  rw [Addr.add_mid]; exact hy j u hu
 have hl5 : ds.length = 1 * 5 := by omega
 obtain ⟨v', w', hr, h2, h3, _⟩ := run_append_own (P := P) w base t ty e i z 5 72 hu hi hz hsz hby hfive (by omega) v n xs hown ⟨ga, go, none⟩ 1 c ds hl5 hn h1 (by simp only [maxLen]; omega) (by rw [← hby]; exact hbb) hb
 refine ⟨v', w', hr, h2, h3, ?_⟩
 have hl5i : ds.length = 1 * i.size := by rw [hsz]; omega
 have hown' := hown
 rcases hown'.2 with ⟨rfl, rfl⟩ | ⟨g, cap, cur, rfl, hbg, hg, hnc, hcm, hcs, htake⟩
 ·have hr2 := run_append_nil (P := P) w t ty e i z hu hi hz ⟨ga, go, none⟩ 1 c ds hl5i hn (by omega) (by omega) (by rw [hby]; omega)
  rw [hr] at hr2
  have := (Result.ok.inj hr2).1
  subst this
  exact Or.inr rfl
 ·by_cases hroom : n + 1 ≤ cap
  ·have hr2 := run_append_room (P := P) w t ty e i hu hi g n cap cur hg ⟨ga, go, none⟩ 1 c ds hl5i hn h1 hroom (by rw [hsz, hcs, hl5, ← Nat.add_mul]; exact Nat.mul_le_mul_right _ hroom)
   rw [hr] at hr2
   have := (Result.ok.inj hr2).1
   subst this
   exact Or.inl rfl
  ·have holds : ∀ j u, xs[j]? = some u → w.cell? ((⟨g, 0, none⟩ : Addr).add j) = some u := World.ownsRow.cells hown (g := g) rfl
   have hr2 := run_append_grow (P := P) w t ty e i z hu hi hz ⟨g, 0, none⟩ n cap xs (by rw [hsz]; exact hown.1) holds ⟨ga, go, none⟩ 1 c ds hl5i hn (by omega) (by omega) (growslice_fits (by omega) hbb)
   rw [hr] at hr2
   have := (Result.ok.inj hr2).1
   subst this
   exact Or.inr rfl
end
theorem ownd_nil (e : TypeId) (w : World) (base : Nat) : OwnD e w base (.slice none 0 0) 0 [] := World.ownsRow_nil w base e 5
theorem OwnD.form {e : TypeId} {w : World} {base : Nat} {v : Value} {n : Nat} {xs : List Value} (h : OwnD e w base v n xs) : ∃ sp c, v = .slice sp n c ∧ n ≤ c ∧ (sp = none → c = 0) := by
 rcases h.2 with ⟨rfl, rfl⟩ | ⟨g, cap, cur, rfl, _, _, hn, _⟩
 ·exact ⟨none, 0, rfl, Nat.le_refl _, fun _ => rfl⟩
 ·exact ⟨_, cap, rfl, hn, fun e => by cases e⟩
theorem OwnD.at {e : TypeId} {w : World} {base : Nat} {v : Value} {n : Nat} {xs : List Value} (h : OwnD e w base v n xs) (hn : 0 < n) : ∃ g c, v = .slice (some ⟨g, 0, none⟩) n c ∧ base ≤ g ∧ g < w.heap.size ∧ n ≤ c ∧ ∀ i, i < n → CellsAt w g (0 + i * 5) ((xs.drop (i * 5)).take 5) := by
 rcases h.2 with ⟨rfl, rfl⟩ | ⟨g, cap, cur, rfl, hb, hg, hnc, _⟩
 ·omega
 ·refine ⟨g, cap, rfl, hb, (Array.getElem?_eq_some_iff.1 hg).1, hnc, fun i hi j u hu => ?_⟩
  have hx : xs[i * 5 + j]? = some u := by
   rw [List.getElem?_take] at hu
   split at hu
   ·rw [List.getElem?_drop] at hu; exact hu
   ·cases hu
  have := World.ownsRow.cells h (g := g) rfl (i * 5 + j) u hx
  rw [Addr.add_mid] at this
  rw [Nat.zero_add]
  rw [Nat.zero_add] at this
  exact this
theorem OwnD.below {e : TypeId} {a b : World} {B : Nat} {v : Value} {n : Nat} {xs : List Value} (h : OwnD e a B v n xs) (hb : Below a.heap.size a b) : OwnD e b B v n xs := by
 refine ⟨h.1, ?_⟩
 rcases h.2 with h2 | ⟨g, cap, cur, hv, hB, hg, r⟩
 ·exact Or.inl h2
 ·exact Or.inr ⟨g, cap, cur, hv, hB, by rw [hb.block g (Array.getElem?_eq_some_iff.1 hg).1]; exact hg, r⟩
theorem OwnD.kept {e : TypeId} {a b : World} {B : Nat} {v : Value} {n : Nat} {xs : List Value} {row : Option Nat} (h : OwnD e a B v n xs) (hg : a.grownBy b row) (hne : ∀ g, v.ownBlock = some g → row ≠ some g) : OwnD e b B v n xs := by
 refine ⟨h.1, ?_⟩
 rcases h.2 with h2 | ⟨g, cap, cur, hv, hB, hgg, r⟩
 ·exact Or.inl h2
 ·exact Or.inr ⟨g, cap, cur, hv, hB, by rw [hg.block g (Array.getElem?_eq_some_iff.1 hgg).1 (fun er => hne g (by rw [hv]; rfl) er.symm)]; exact hgg, r⟩
theorem Erv : Elem5 Tryz.prog 31 33 (.agg #[.int .i64 0, .int .i64 0, .bool false, .slice none 0 0, .slice none 0 0]) := by
 refine ⟨Tryz.underlying31, ?_, rfl⟩
 have h : (Tryz.prog.info? 33).map (fun i => (i.zero, i.size, i.bytes)) = some (some (.agg #[.int .i64 0, .int .i64 0, .bool false, .slice none 0 0, .slice none 0 0]), 5, 72) := by kernel_rfl
 obtain ⟨i, hi, h2⟩ := Option.map_eq_some_iff.1 h
 simp only [Prod.mk.injEq] at h2
 exact ⟨i, hi, h2.1, h2.2.1, h2.2.2⟩
def zero5 : Array Value := #[.int .i64 0, .int .i64 0, .bool false, .slice none 0 0, .slice none 0 0]
def Free (SR : Nat → Prop) (O R : Nat) (x : Value) (b : Nat) : Prop := SR b ∧ b ≠ O ∧ b ≠ R ∧ x.ownBlock ≠ some b
structure Made (e : TypeId) (SR : Nat → Prop) (n : Nat) (w wr : World) (O R : Nat) (c t : Int) (md : Bool) (xb xk : Value) (ks : List DV) (i : Nat) (xs : List Value) : Prop where
 out : wr.heap[O]? = some (.cells #[.int .i64 c, .int .i64 t, .bool md, xb, xk] e (0, 0))
 res : wr.heap[R]? = some (.cells zero5 e (0, 0))
 own : OwnD e wr (O + 1) xk i xs
 kids : ∀ (j : Nat) (k : DV), j < i → ks[j]? = some k → VAt n (Free SR O R xk) wr ((xs.drop (j * 5)).take 5) k
 ro : R < O
 old : w.heap.size ≤ R
 b : Below w.heap.size w wr
theorem Made.lt {e : TypeId} {SR : Nat → Prop} {n : Nat} {w wr : World} {O R : Nat} {c t : Int} {md : Bool} {xb xk : Value} {ks : List DV} {i : Nat} {xs : List Value} (h : Made e SR n w wr O R c t md xb xk ks i xs) : O < wr.heap.size := (Array.getElem?_eq_some_iff.1 h.out).1
theorem Made.below {e : TypeId} {SR : Nat → Prop} {n : Nat} {w wr wn : World} {O R : Nat} {c t : Int} {md : Bool} {xb xk : Value} {ks : List DV} {i : Nat} {xs : List Value} (h : Made e SR n w wr O R c t md xb xk ks i xs) (hb : Below wr.heap.size wr wn) : Made e SR n w wn O R c t md xb xk ks i xs := by
 refine ⟨?_, ?_, h.own.below hb, fun j k hj hk => (h.kids j k hj hk).below hb, h.ro, h.old, h.b.trans (hb.mono h.b.size)⟩
 ·rw [hb.block O h.lt]; exact h.out
 ·rw [hb.block R (Nat.lt_trans h.ro h.lt)]; exact h.res
theorem OwnD.block {e : TypeId} {w : World} {base : Nat} {v : Value} {n : Nat} {xs : List Value} (h : OwnD e w base v n xs) : ∀ g, v.ownBlock = some g → base ≤ g ∧ g < w.heap.size := by
 intro g hg
 rcases h.2 with ⟨rfl, _⟩ | ⟨g', cap, cur, rfl, hb, hgg, _⟩
 ·cases hg
 ·simp only [Value.ownBlock, Option.some.injEq] at hg
  subst hg
  exact ⟨hb, (Array.getElem?_eq_some_iff.1 hgg).1⟩
theorem grown_below' {a b w : World} {row : Option Nat} {N : Nat} (hB : Below N w a) (hg : a.grownBy b row) (hn : N ≤ a.heap.size) (hr : ∀ g, row = some g → N ≤ g) : Below N w b := hB.grown hg hn hr
theorem grown_setRow (w : World) (g : Nat) (cs : Array Value) : w.grownBy (w.setRow g cs) (some g) :=
 ⟨rfl, rfl, rfl, by simp, fun k _ hk => setRow_other w g k _ (fun e => hk (by rw [e]))⟩
theorem chunk_old {xs ds : List Value} {i j : Nat} (hl : xs.length = i * 5) (hj : j < i) : ((xs ++ ds).drop (j * 5)).take 5 = (xs.drop (j * 5)).take 5 := by
 rw [List.drop_append_of_le_length (by omega), List.take_append_of_le_length (by rw [List.length_drop]; omega)]
theorem chunk_new {xs ds : List Value} {i : Nat} (hl : xs.length = i * 5) (hd : ds.length = 5) : ((xs ++ ds).drop (i * 5)).take 5 = ds := by
 rw [← hl, List.drop_left', List.take_of_length_le (by omega)]
 rfl
theorem Made.add {e : TypeId} {SR : Nat → Prop} {n : Nat} {w wa wb : World} {O R : Nat} {c t : Int} {md : Bool} {xb xk v' : Value} {ks : List DV} {i : Nat} {xs ds : List Value} {k : DV} (h : Made e SR n w wa O R c t md xb xk ks i xs) (hk : ks[i]? = some k) (hv : VAt n (Free SR O R xk) wa ds k)
  (hown : OwnD e wb (O + 1) v' (i + 1) (xs ++ ds)) (hg : wa.grownBy wb xk.ownBlock) (hor : v'.ownBlock = xk.ownBlock ∨ v'.ownBlock = some wa.heap.size) : Made e SR n w (wb.setCell ⟨O, 4, none⟩ v') O R c t md xb v' ks (i + 1) (xs ++ ds) := by
 have hlt := h.lt
 have hxo : ∀ g, xk.ownBlock = some g → O + 1 ≤ g := fun g hx => (OwnD.block h.own g hx).1
 have hvo : ∀ g, v'.ownBlock = some g → O + 1 ≤ g := fun g hx => (OwnD.block hown g hx).1
 have hO : wb.heap[O]? = some (.cells #[.int .i64 c, .int .i64 t, .bool md, xb, xk] e (0, 0)) := by rw [hg.block O hlt (fun e => by have := hxo O e.symm; omega)]; exact h.out
 have hR : wb.heap[R]? = some (.cells zero5 e (0, 0)) := by rw [hg.block R (Nat.lt_trans h.ro hlt) (fun e => by have := hxo R e.symm; have := h.ro; omega)]; exact h.res
 have hgs : wb.grownBy (wb.setCell ⟨O, 4, none⟩ v') (some O) := grown_setCell (World.grownBy.refl _ _) ⟨O, 4, none⟩ v' rfl
 have turn : ∀ {ds' : List Value} {k' : DV}, VAt n (Free SR O R xk) wa ds' k' → VAt n (Free SR O R v') (wb.setCell ⟨O, 4, none⟩ v') ds' k' := fun hv' => by
  have h1 : VAt n (fun b => Free SR O R xk b ∧ Free SR O R v' b) wa _ _ := hv'.mono fun b hb hbl => ⟨hb, hb.1, hb.2.1, hb.2.2.1, fun e => by
   rcases hor with ho | ho
   ·rw [ho] at e; exact hb.2.2.2 e
   ·rw [ho] at e; simp only [Option.some.injEq] at e; omega⟩
  have h2 := h1.kept hg (fun g hx hf => hf.1.2.2.2 hx)
  have h3 := h2.kept hgs (fun g hx hf => by simp only [Option.some.injEq] at hx; exact hf.1.2.1 hx.symm)
  exact h3.mono fun b hb _ => hb.2
 refine ⟨?_, ?_, OwnD.kept hown hgs (fun g hx e => by have := hvo g hx; simp only [Option.some.injEq] at e; omega), fun j k' hj hk' => ?_, h.ro, h.old, ?_⟩
 ·rw [heap_setCell_same wb O 4 _ e _ hO]; rfl
 ·rw [heap_setCell_other _ _ _ _ (show R ≠ O by have := h.ro; omega)]; exact hR
 ·rcases Nat.lt_succ_iff_lt_or_eq.1 hj with hj | rfl
  ·rw [chunk_old h.own.1 hj]
   exact turn (h.kids j k' hj hk')
  ·rw [chunk_new h.own.1 hv.len]
   rw [hk] at hk'
   cases hk'
   exact turn hv
 ·have h1 := grown_below' h.b hg h.b.size (fun g hx => by have := hxo g hx; have := h.ro; have := h.old; omega)
  exact grown_below' h1 hgs h1.size (fun g hx => by simp only [Option.some.injEq] at hx; have := h.ro; have := h.old; omega)
theorem Made.done {e : TypeId} {SR : Nat → Prop} {n : Nat} {w wr : World} {O R : Nat} {c t : Int} {md : Bool} {xb xk : Value} {ks : List DV} {xs : List Value} {bs : Bs} (h : Made e SR n w wr O R c t md xb xk ks ks.length xs) (hxb : BytesAt w xb bs) (hbS : bs ≠ [] → ∀ k, xb.ownBlock = some k → SR k) (hnew : ∀ b, w.heap.size ≤ b → SR b)
  (hl : bs.length ≤ 9223372036854775807 ∧ ks.length ≤ 9223372036854775807) (cs : Array Value) : VAt (n + 1) SR (wr.setRow R cs) (dcells c t md xb xk) (.mk c t md bs ks) ∧ Below w.heap.size w (wr.setRow R cs) := by
 have hgs := grown_setRow wr R cs
 have hB : Below w.heap.size w (wr.setRow R cs) := grown_below' h.b hgs h.b.size (fun g hx => by simp only [Option.some.injEq] at hx; have := h.old; omega)
 refine ⟨?_, hB⟩
 obtain ⟨sp, cp, rfl, hc1, hc2⟩ := h.own.form
 refine ⟨xb, sp, cp, rfl, hxb.below hB, hbS, hl, hc1, hc2, fun hne => ?_⟩
 simp only [DV.kids] at hne
 obtain ⟨g, c', e2, hb, _, _, hat⟩ := OwnD.at h.own (List.length_pos_iff.2 hne)
 simp only [Value.slice.injEq] at e2
 obtain ⟨rfl, _, _⟩ := e2
 have hgR : some g ≠ some R := fun e => by simp only [Option.some.injEq] at e; have := h.ro; omega
 refine ⟨g, 0, rfl, hnew g (by have := h.ro; have := h.old; omega), fun i k hik => ?_⟩
 have hi : i < ks.length := (List.getElem?_eq_some_iff.1 hik).1
 refine ⟨_, (hat i hi).kept hgs hgR, ?_⟩
 have h1 := (h.kids i k hi hik).kept hgs (fun g' hx hf => by simp only [Option.some.injEq] at hx; exact hf.2.2.1 hx.symm)
 exact h1.mono fun b hb _ => hb.1
end Go.Proofs.YtcofnockikninaaGreatDoor
