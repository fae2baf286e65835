/-
  A value that is being read: the reader, the result's block, the value's block, the kids.
-/
import Derived.Test.YtngkidlgcdofhaaDoorTag9
import Derived.Test.YtngkidlgcdofhaaDoorLen9
import Derived.Test.YtngkidlgcdofhaaDoorMF
import Derived.Test.YtngkidlgcdofhaaDoorDval
import Derived.Test.YtngkidlgcdofhaaDoorCut9
import Derived.Test.YtngkidlgcdofhaaDoorJoin9
namespace Go.Proofs.YtngkidlgcdofhaaDoor
open Go.RowKit
/-- The reader, the result's block A, the value's block V. -/
structure QAt (w wr : World) (K A V : Nat) (sb : Option Addr) (cb : Nat) (b : Bs) (s en : Nat) (row : Array Value) : Prop where
  rd : RAt wr K sb cb b s en
  gr : w.grownBy wr (some K)
  res : wr.heap[A]? = some (.cells dzero 32 (0, 0))
  val : wr.heap[V]? = some (.cells row 32 (0, 0))
  ka : K < A
  aw : A = w.heap.size
  av : A < V
  ba : b ≠ [] → ∀ x, sb = some x → x.block < A
theorem QAt.drew {w wr : World} {K A V : Nat} {sb : Option Addr} {cb : Nat} {b : Bs} {s en : Nat} {row : Array Value} (h : QAt w wr K A V sb cb b s en row) : QAt w wr.drew K A V sb cb b s en row := ⟨h.rd.drew, h.gr.drew, h.res, h.val, h.ka, h.aw, h.av, h.ba⟩
theorem QAt.lt {w wr : World} {K A V : Nat} {sb : Option Addr} {cb : Nat} {b : Bs} {s en : Nat} {row : Array Value} (h : QAt w wr K A V sb cb b s en row) : V < wr.heap.size := (Array.getElem?_eq_some_iff.1 h.val).1
/-- New memory. -/
theorem QAt.below {w wr wn : World} {K A V : Nat} {sb : Option Addr} {cb : Nat} {b : Bs} {s en : Nat} {row : Array Value} (h : QAt w wr K A V sb cb b s en row) (hb : Below wr.heap.size wr wn) : QAt w wn K A V sb cb b s en row :=
  ⟨h.rd.below hb, grown_below h.gr hb, by rw [hb.block A (by have := h.lt; have := h.av; omega)]; exact h.res, by rw [hb.block V h.lt]; exact h.val, h.ka, h.aw, h.av, h.ba⟩
/-- What writes into the reader alone. -/
theorem QAt.read {w wr wn : World} {K A V : Nat} {sb : Option Addr} {cb : Nat} {b : Bs} {s s' en : Nat} {row : Array Value} (h : QAt w wr K A V sb cb b s en row) (hg : wr.grownBy wn (some K)) (hr : RAt wn K sb cb b s' en) : QAt w wn K A V sb cb b s' en row :=
  ⟨hr, grown_trans h.gr hg, by rw [hg.block A (by have := h.lt; have := h.av; omega) (fun e => by have := Option.some.inj e; have := h.ka; omega)]; exact h.res, by rw [hg.block V h.lt (fun e => by have := Option.some.inj e; have := h.ka; have := h.av; omega)]; exact h.val, h.ka, h.aw, h.av, h.ba⟩
/-- What writes into a block behind the value's. -/
theorem QAt.kept {w wr wn : World} {K A V g : Nat} {sb : Option Addr} {cb : Nat} {b : Bs} {s en : Nat} {row : Array Value} (h : QAt w wr K A V sb cb b s en row) (hg : wr.grownBy wn (some g)) (hV : V < g) : QAt w wn K A V sb cb b s en row :=
  ⟨h.rd.kept hg (by have := h.ka; have := h.av; omega) (fun hb x hx => by have := h.ba hb x hx; have := h.av; omega), grown_new h.gr hg (by have := h.aw; have := h.av; omega), by rw [hg.block A (by have := h.lt; have := h.av; omega) (fun e => by have := Option.some.inj e; have := h.av; omega)]; exact h.res, by rw [hg.block V h.lt (fun e => by have := Option.some.inj e; omega)]; exact h.val, h.ka, h.aw, h.av, h.ba⟩
/-- A store into the value. -/
theorem QAt.put {w wr : World} {K A V : Nat} {sb : Option Addr} {cb : Nat} {b : Bs} {s en : Nat} {row : Array Value} (h : QAt w wr K A V sb cb b s en row) (j : Nat) (u : Value) : QAt w (wr.setCell ⟨V, j, none⟩ u) K A V sb cb b s en (row.setIfInBounds j u) := by
  have hg := grown_setCell (World.grownBy.refl wr (some V)) ⟨V, j, none⟩ u rfl
  refine ⟨h.rd.kept hg (by have := h.ka; have := h.av; omega) (fun hb x hx => by have := h.ba hb x hx; have := h.av; omega), grown_new h.gr hg (by have := h.aw; have := h.av; omega), ?_, ?_, h.ka, h.aw, h.av, h.ba⟩
  · rw [heap_setCell_other _ _ _ _ (by show A ≠ V; have := h.av; omega)]; exact h.res
  · exact heap_setCell_same wr V j _ 32 _ h.val
theorem QAt.cell {w wr : World} {K A V : Nat} {sb : Option Addr} {cb : Nat} {b : Bs} {s en : Nat} {row : Array Value} (h : QAt w wr K A V sb cb b s en row) (j : Nat) (u : Value) (hu : row[j]? = some u) : wr.cell? ⟨V, j, none⟩ = some u ∧ wr.frozen? ⟨V, j, none⟩ = false :=
  ⟨by rw [cell_of_row _ _ _ _ 32 (0, 0) h.val]; exact hu, frozen_of_row _ _ _ _ 32 h.val⟩
/-- The ending: the result's block is written. -/
theorem QAt.fin {w wr : World} {K A V : Nat} {sb : Option Addr} {cb : Nat} {b : Bs} {s en : Nat} {row : Array Value} (h : QAt w wr K A V sb cb b s en row) (cs : Array Value) : RAt (wr.setRow A cs) K sb cb b s en ∧ w.grownBy (wr.setRow A cs) (some K) ∧ (wr.setRow A cs).heap[A]? = some (.cells cs 32 (0, 0)) := by
  have hg := grown_setRow wr A cs
  exact ⟨h.rd.kept hg (by have := h.ka; omega) (fun hb x hx => by have := h.ba hb x hx; omega), grown_new h.gr hg (by have := h.aw; omega), setRow_heap wr A _ _ 32 (0, 0) h.res⟩
/-- A value and its row of kids, as cells. -/
theorem Made.kept {e : TypeId} {SR : Nat → Prop} {n : Nat} {w wr wn : World} {O R G : Nat} {c t : Int} {md : Bool} {xb xk : Value} {ks : List DV} {i : Nat} {xs : List Value} (h : Made e SR n w wr O R c t md xb xk ks i xs) (hg : wr.grownBy wn (some G)) (hO : O < G) (hS : ¬ SR G) (hx : xk.ownBlock ≠ some G) (hb : w.heap.size ≤ G) : Made e SR n w wn O R c t md xb xk ks i xs := by
  have hlt := h.lt
  have hro := h.ro
  refine ⟨?_, ?_, h.own.kept hg (fun g hgx e => hx (by rw [hgx, ← e])), fun j k hj hk => (h.kids j k hj hk).kept hg (fun g hgx hf => by cases hgx; exact hS hf.1), h.ro, h.old, grown_below' h.b hg h.b.size (fun g hgx => by cases hgx; exact hb)⟩
  · rw [hg.block O hlt (fun e => by have := Option.some.inj e; omega)]; exact h.out
  · rw [hg.block R (by omega) (fun e => by have := Option.some.inj e; omega)]; exact h.res
/-- The whole of it, where it was made. -/
theorem Made.all {e : TypeId} {SR : Nat → Prop} {n : Nat} {w wr : World} {O R : Nat} {c t : Int} {md : Bool} {xk : Value} {ks : List DV} {xs : List Value} (h : Made e SR n w wr O R c t md (.slice none 0 0) xk ks ks.length xs) (hnew : ∀ b, xk.ownBlock = some b → SR b) (hl : ks.length ≤ 9223372036854775807) :
    VAt (n + 1) (fun b => SR b ∧ b ≠ O ∧ b ≠ R) wr (dcells c t md (.slice none 0 0) xk) (.mk c t md [] ks) := by
  obtain ⟨sp, cp, rfl, hc1, hc2⟩ := h.own.form
  refine ⟨.slice none 0 0, sp, cp, rfl, bytes_nil wr, fun hne => absurd rfl hne, ⟨Nat.zero_le _, hl⟩, hc1, hc2, fun hne => ?_⟩
  simp only [DV.kids] at hne
  obtain ⟨g, c', e2, hb, _, _, hat⟩ := OwnD.at h.own (List.length_pos_iff.2 hne)
  simp only [Value.slice.injEq] at e2
  obtain ⟨rfl, _, _⟩ := e2
  have hro := h.ro
  refine ⟨g, 0, rfl, ⟨hnew g rfl, by omega, by omega⟩, fun i k hik => ?_⟩
  have hi : i < ks.length := (List.getElem?_eq_some_iff.1 hik).1
  exact ⟨_, hat i hi, (h.kids i k hi hik).mono fun b hb _ => ⟨hb.1, hb.2.1, hb.2.2.1⟩⟩
/-- What reading a value tells, and where the reader stands then. -/
def ValueTold (f : Nat) (w' : World) (B : Nat) (b : Bs) (s en : Nat) (cs : List Value) (er : Int) (s' : Nat) : Prop :=
  match valueP formD f (leftB b s en) with
  | .no x => cs = dzero.toList ∧ er = (x : Int)
  | .yes (v, r) => VAt f (fun k => B ≤ k) w' cs v ∧ er = 0 ∧ r = leftB b s' en ∧ s < s'
/-- Reading a value at a depth, f around which may stand still. -/
def Values (f : Nat) : Prop := ∀ (w : World) (K : Nat) (sb : Option Addr) (cb : Nat) (b : Bs) (s en : Nat) (d : Nat), d + f = 17 → RAt w K sb cb b s en → Calls Tryd.prog 20 #[.pointer (some ⟨K, 0, none⟩), .int .i64 (d : Int)] w fun e w' => ∃ (cs : List Value) (er : Int) (s' : Nat), e = .returned (.tuple #[.agg cs.toArray, .int .i64 er]) ∧ ValueTold f w' w.heap.size b s en cs er s' ∧ s ≤ s' ∧ RAt w' K sb cb b s' en ∧ w.grownBy w' (some K)
end Go.Proofs.YtngkidlgcdofhaaDoor
/-
  A part of the bytes that are read.
-/
namespace Go.Proofs.YtngkidlgcdofhaaDoor
open Go.RowKit
theorem left_part (b : Bs) (f e : Nat) : leftB b f e = (b.drop f).take (e - f) := by unfold leftB; rw [List.drop_take]
theorem part_left {sp : Option Addr} {N c : Nat} {b : Bs} (hN : b.length = N) {w : World} (h : BytesAt w (.slice sp N c) b) {f e n : Nat} (hf : f + n = e) (he : e ≤ N) :
    ∃ sy cy, (∀ w', (Instr.sliceAt 22 (.slice sp N c) (some (.int .i64 (f : Int))) (some (.int .i64 (e : Int))) none).run Tryd.prog w' = .ok (.slice sy n cy) w') ∧ ∀ w', BytesAt w' (.slice sp N c) b → BytesAt w' (.slice sy n cy) (leftB b f e) := by
  subst hN
  obtain ⟨_, _, ex, h1, _⟩ := bytes_open h
  simp only [Value.slice.injEq] at ex
  obtain ⟨_, _, rfl⟩ := ex
  refine ⟨cutAt sp c f, c - f, fun w' => ?_, fun w' h' => ?_⟩
  · have := slice_mid sp b.length c f e (by omega) (by omega) w'
    rwa [show e - f = n by omega] at this
  · have := bytes_part h' f e (by omega) he
    rw [left_part]
    rwa [show e - f = n by omega] at this ⊢
end Go.Proofs.YtngkidlgcdofhaaDoor
/-
  The kids of a value that is being read.
-/
namespace Go.Proofs.YtngkidlgcdofhaaDoor
open Go.RowKit
theorem RAt.grown {a b' : World} {row : Option Nat} {K : Nat} {sb : Option Addr} {cb : Nat} {b : Bs} {s en : Nat} (h : RAt a K sb cb b s en) (hg : a.grownBy b' row) (hr : ∀ g, row = some g → K ≠ g ∧ (b ≠ [] → ∀ x, sb = some x → x.block ≠ g)) : RAt b' K sb cb b s en := by
  cases row with
  | none =>
    have hg2 : a.grownBy b' (some a.heap.size) := ⟨hg.os, hg.tape, hg.output, hg.size, fun i hi _ => hg.block i hi (fun e => by cases e)⟩
    exact h.kept hg2 (by have := h.lt; omega) (fun hb x hx => by have := h.old hb x hx; omega)
  | some g => exact h.kept hg (hr g rfl).1 (hr g rfl).2
theorem QAt.grown {w wr wn : World} {row : Option Nat} {K A V : Nat} {sb : Option Addr} {cb : Nat} {b : Bs} {s en : Nat} {r : Array Value} (h : QAt w wr K A V sb cb b s en r) (hg : wr.grownBy wn row) (hV : ∀ g, row = some g → V < g) : QAt w wn K A V sb cb b s en r := by
  cases row with
  | none =>
    have hg2 : wr.grownBy wn (some wr.heap.size) := ⟨hg.os, hg.tape, hg.output, hg.size, fun i hi _ => hg.block i hi (fun e => by cases e)⟩
    exact h.kept hg2 h.lt
  | some g => exact h.kept hg (hV g rfl)
/-- A world with nothing in it. -/
def bare (w : World) : World := { w with heap := #[] }
theorem bare_below {w wr : World} {row : Option Nat} (h : w.grownBy wr row) : Below (bare w).heap.size (bare w) wr :=
  ⟨h.os, h.tape, h.output, Nat.zero_le _, fun i hi => by simp [bare] at hi⟩
theorem Made.list {e : TypeId} {SR : Nat → Prop} {n : Nat} {w wr : World} {O R : Nat} {c t : Int} {md : Bool} {xb xk : Value} {ks ks' : List DV} {i : Nat} {xs : List Value} (h : Made e SR n w wr O R c t md xb xk ks i xs) (hk : ∀ j, j < i → ks'[j]? = ks[j]?) : Made e SR n w wr O R c t md xb xk ks' i xs :=
  ⟨h.out, h.res, h.own, fun j k hj hjk => h.kids j k hj (by rw [← hk j hj]; exact hjk), h.ro, h.old, h.b⟩
theorem wpList_append_five {P : Program} {t e : TypeId} {z : Value} (E : Elem5 P t e z) {w : World} {ops : Array Oper} {rest : List Oper} {o : Oper} {a : Act} {Q : Exit → Act → World → Prop} (hgd : o.guard = none) (s x : Operand)
    (ho : o.op = .call { callee := .builtin .append, args := #[s, x], argTypes := #[t, t] }) (base : Nat) (v : Value) (n : Nat) (xs ds : List Value) (hs : a.eval s = v) (hown : OwnD e w base v n xs) (ga go c : Nat)
    (hx : a.eval x = .slice (some ⟨ga, go, none⟩) 1 c) (hds : ds.length = 5) (hy : CellsAt w ga go ds) (h1 : ∀ u ∈ ds, u.oneCell' = true) (hb : base ≤ w.heap.size) (hlen : n ≤ 1073741824)
    (h : ∀ v' w', OwnD e w' base v' (n + 1) (xs ++ ds) → w.grownBy w' v.ownBlock → (v'.ownBlock = v.ownBlock ∨ v'.ownBlock = some w.heap.size) → wpList P ops Q rest (a.put o.dst v') w') : wpList P ops Q (o :: rest) a w := by
  obtain ⟨v', w', hr, h2, h3, h4⟩ := run_append_five E w base v n xs ds hown ga go c hds hy h1 hb hlen o.type
  refine wpList_plain hgd fun _ hK => ?_
  unfold Oper.wp execOp
  simp only [ho, resolve, invoke, builtin, Sem.run_bind, Sem.run_pure, Result.andThen_ok, List.map_toArray, List.map_cons, List.map_nil, hs, hx, hr]
  exact hK _ _ (h v' w' h2 h3 h4)
/-- Kids that were read: dn, each with its bytes; the kids' reader K2 stands at sk. -/
structure KAt (w wr : World) (K K2 A V : Nat) (sb : Option Addr) (cb : Nat) (b : Bs) (s2 E en : Nat) (c t : Int) (f n : Nat) (dn : List (DV × Bs)) (sk m : Nat) (sx : Option Addr) (cx : Nat) (xs : List Value) (li : Int) (fl : Bool) : Prop where
  q : QAt w wr K A V sb cb b s2 en #[.int .i64 c, .int .i64 t, .bool true, .slice none 0 0, .slice sx dn.length cx]
  k : RAt wr K2 sb cb b sk E
  md : Made 32 (fun g => A ≤ g ∧ g ≠ K2) f (bare w) wr V A c t true (.slice none 0 0) (.slice sx dn.length cx) (dn.map (·.1)) dn.length xs
  xk : ∀ g, (Value.slice sx dn.length cx).ownBlock = some g → K2 < g
  vk : V < K2
  told : kidsP (valueP formD f) n (leftB b s2 E) = prepK dn (kidsP (valueP formD f) m (leftB b sk E))
  fuel : E - sk ≤ m
  fl : fl = fallsP (dn.map (·.2))
  last : (dn = [] ∧ li = -1) ∨ ∃ d0 v ls, dn = d0 ++ [(v, leftB b ls sk)] ∧ li = (ls : Int) ∧ ls ≤ sk
  ne : b ≠ []
  cnt : dn.length ≤ sk
theorem KAt.below {w wr wn : World} {K K2 A V : Nat} {sb : Option Addr} {cb : Nat} {b : Bs} {s2 E en : Nat} {c t : Int} {f n : Nat} {dn : List (DV × Bs)} {sk m : Nat} {sx : Option Addr} {cx : Nat} {xs : List Value} {li : Int} {fl : Bool} (h : KAt w wr K K2 A V sb cb b s2 E en c t f n dn sk m sx cx xs li fl) (hb : Below wr.heap.size wr wn) : KAt w wn K K2 A V sb cb b s2 E en c t f n dn sk m sx cx xs li fl :=
  ⟨h.q.below hb, h.k.below hb, h.md.below hb, h.xk, h.vk, h.told, h.fuel, h.fl, h.last, h.ne, h.cnt⟩
theorem KAt.drew {w wr : World} {K K2 A V : Nat} {sb : Option Addr} {cb : Nat} {b : Bs} {s2 E en : Nat} {c t : Int} {f n : Nat} {dn : List (DV × Bs)} {sk m : Nat} {sx : Option Addr} {cx : Nat} {xs : List Value} {li : Int} {fl : Bool} (h : KAt w wr K K2 A V sb cb b s2 E en c t f n dn sk m sx cx xs li fl) : KAt w wr.drew K K2 A V sb cb b s2 E en c t f n dn sk m sx cx xs li fl := h.below (Below.refl _ _).drew
/-- The kids' reader has read one: what stood stays. -/
theorem KAt.read {w wr wn : World} {K K2 A V : Nat} {sb : Option Addr} {cb : Nat} {b : Bs} {s2 E en : Nat} {c t : Int} {f n : Nat} {dn : List (DV × Bs)} {sk m : Nat} {sx : Option Addr} {cx : Nat} {xs : List Value} {li : Int} {fl : Bool} (h : KAt w wr K K2 A V sb cb b s2 E en c t f n dn sk m sx cx xs li fl) (hg : wr.grownBy wn (some K2)) :
    QAt w wn K A V sb cb b s2 en #[.int .i64 c, .int .i64 t, .bool true, .slice none 0 0, .slice sx dn.length cx] ∧ Made 32 (fun g => A ≤ g ∧ g ≠ K2) f (bare w) wn V A c t true (.slice none 0 0) (.slice sx dn.length cx) (dn.map (·.1)) dn.length xs :=
  ⟨h.q.kept hg h.vk, h.md.kept hg h.vk (fun hs => hs.2 rfl) (fun e => by have := h.xk K2 e; omega) (Nat.zero_le _)⟩
/-- One kid more is laid behind the others. -/
theorem KAt.add {w wa wb : World} {K K2 A V : Nat} {sb : Option Addr} {cb : Nat} {b : Bs} {s2 E en : Nat} {c t : Int} {f n : Nat} {dn : List (DV × Bs)} {sk sk' m : Nat} {sx : Option Addr} {cx : Nat} {xs ds : List Value} {li : Int} {fl : Bool} {v : DV} {v' : Value} {wr : World}
    (h : KAt w wr K K2 A V sb cb b s2 E en c t f n dn sk m sx cx xs li fl)
    (hq : QAt w wa K A V sb cb b s2 en #[.int .i64 c, .int .i64 t, .bool true, .slice none 0 0, .slice sx dn.length cx]) (hm : Made 32 (fun g => A ≤ g ∧ g ≠ K2) f (bare w) wa V A c t true (.slice none 0 0) (.slice sx dn.length cx) (dn.map (·.1)) dn.length xs)
    (hk : RAt wa K2 sb cb b sk' E) (hv : VAt f (fun k => wr.heap.size ≤ k) wa ds v) (hwr : K2 < wr.heap.size ∧ ∀ g, (Value.slice sx dn.length cx).ownBlock = some g → g < wr.heap.size) (hwa : wr.heap.size ≤ wa.heap.size)
    (hown : OwnD 32 wb (V + 1) v' (dn.length + 1) (xs ++ ds)) (hg : wa.grownBy wb (Value.slice sx dn.length cx).ownBlock) (hor : v'.ownBlock = (Value.slice sx dn.length cx).ownBlock ∨ v'.ownBlock = some wa.heap.size)
    (ht : valueP formD f (leftB b sk E) = .yes (v, leftB b sk' E)) (hsk : sk < sk') (hsE : sk' ≤ E) (hEb : E ≤ b.length) :
    ∃ sy cy, v' = .slice sy (dn ++ [(v, leftB b sk sk')]).length cy ∧ KAt w (wb.setCell ⟨V, 4, none⟩ v') K K2 A V sb cb b s2 E en c t f n (dn ++ [(v, leftB b sk sk')]) sk' (m - 1) sy cy (xs ++ ds) (sk : Int) (fallsP ((dn ++ [(v, leftB b sk sk')]).map (·.2))) := by
  obtain ⟨sy, cy, rfl, _, _⟩ := hown.form
  have hlen : (dn ++ [(v, leftB b sk sk')]).length = dn.length + 1 := by rw [List.length_append]; rfl
  have hvf : VAt f (Free (fun g => A ≤ g ∧ g ≠ K2) V A (.slice sx dn.length cx)) wa ds v := hv.mono fun g hgw _ => by
    have h1 := hwr.1
    have h2 := h.vk
    have h3 := h.q.av
    refine ⟨⟨by omega, by omega⟩, by omega, by omega, fun e => ?_⟩
    have := hwr.2 g e
    omega
  have hm1 := hm.list (ks' := (dn ++ [(v, leftB b sk sk')]).map (·.1)) (fun j hj => by rw [List.map_append, List.getElem?_append_left (by rw [List.length_map]; exact hj)])
  have hki : ((dn ++ [(v, leftB b sk sk')]).map (·.1))[dn.length]? = some v := by rw [List.map_append, List.getElem?_append_right (by rw [List.length_map]; exact Nat.le_refl _), List.length_map, Nat.sub_self]; rfl
  have hm2 := Made.add hm1 hki hvf hown hg hor
  have hgV : ∀ g, (Value.slice sx dn.length cx).ownBlock = some g → V < g := fun g hg => by have := h.xk g hg; have := h.vk; omega
  have hqb := (hq.grown hg hgV).put 4 (.slice sy (dn.length + 1) cy)
  have hsetg := grown_setCell (World.grownBy.refl wb (some V)) ⟨V, 4, none⟩ (.slice sy (dn.length + 1) cy) rfl
  have hkb : RAt wb K2 sb cb b sk' E := hk.grown hg (fun g hgx => ⟨by have := h.xk g hgx; omega, fun hb x hx => by have := h.q.ba hb x hx; have := hgV g hgx; have := h.q.av; omega⟩)
  have hkc := hkb.grown hsetg (fun g hgx => by cases hgx; exact ⟨by have := h.vk; omega, fun hb x hx => by have := h.q.ba hb x hx; have := h.q.av; omega⟩)
  refine ⟨sy, cy, by rw [hlen], ?_⟩
  refine ⟨by rw [hlen]; exact hqb, hkc, by rw [hlen]; exact hm2, fun g hgx => ?_, h.vk, ?_, by have := h.fuel; omega, rfl, Or.inr ⟨dn, v, sk, rfl, rfl, by omega⟩, h.ne, by rw [hlen]; have := h.cnt; omega⟩
  · have e : (Value.slice sy (dn ++ [(v, leftB b sk sk')]).length cy).ownBlock = (Value.slice sy (dn.length + 1) cy).ownBlock := by cases sy <;> rfl
    rw [e] at hgx
    rcases hor with ho | ho
    · rw [ho] at hgx; exact h.xk g hgx
    · rw [ho] at hgx
      have := Option.some.inj hgx
      have := hwr.1
      omega
  · have hne : leftB b sk E ≠ [] := fun e => by have := congrArg List.length e; rw [len_leftB hEb] at this; simp at this; omega
    have hmm : (leftB b sk E).length ≤ m := by rw [len_leftB hEb]; exact h.fuel
    rw [h.told, kids_yes dn hne hmm ht, len_leftB hEb, len_leftB hEb, show E - sk - (E - sk') = sk' - sk by omega, left_take (by omega) hsE]
/-- The value, all its kids read. -/
theorem KAt.value {w wr : World} {K K2 A V : Nat} {sb : Option Addr} {cb : Nat} {b : Bs} {s2 E en : Nat} {c t : Int} {f n : Nat} {dn : List (DV × Bs)} {sk m : Nat} {sx : Option Addr} {cx : Nat} {xs : List Value} {li : Int} {fl : Bool} (h : KAt w wr K K2 A V sb cb b s2 E en c t f n dn sk m sx cx xs li fl) (hl : dn.length ≤ 65536) :
    VAt (f + 1) (fun g => A ≤ g ∧ g ≠ V ∧ g ≠ A) wr (dcells c t true (.slice none 0 0) (.slice sx dn.length cx)) (.mk c t true [] (dn.map (·.1))) := by
  have hm := h.md
  have e : dn.length = (dn.map (·.1)).length := by rw [List.length_map]
  have hm2 : Made 32 (fun g => A ≤ g ∧ g ≠ K2) f (bare w) wr V A c t true (.slice none 0 0) (.slice sx dn.length cx) (dn.map (·.1)) (dn.map (·.1)).length xs := by rw [← e]; exact hm
  have := Made.all hm2 (fun g hg => ⟨by have := h.xk g hg; have := h.vk; have := h.q.av; omega, by have := h.xk g hg; omega⟩) (by omega)
  exact this.mono fun g hg _ => ⟨hg.1.1, hg.2.1, hg.2.2⟩
/-- All kids are read. -/
theorem KAt.done {w wr : World} {K K2 A V : Nat} {sb : Option Addr} {cb : Nat} {b : Bs} {s2 E en : Nat} {c t : Int} {f n : Nat} {dn : List (DV × Bs)} {m : Nat} {sx : Option Addr} {cx : Nat} {xs : List Value} {li : Int} {fl : Bool} (h : KAt w wr K K2 A V sb cb b s2 E en c t f n dn E m sx cx xs li fl) : kidsP (valueP formD f) n (leftB b s2 E) = .yes dn := by
  rw [h.told, left_nil (Nat.le_refl _), kids_end]
  show Told.yes (dn ++ []) = _
  rw [List.append_nil]
end Go.Proofs.YtngkidlgcdofhaaDoor
