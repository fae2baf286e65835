/-
  What the arguments' readings give the walks: lists of bytes, flags, turns.
  The statements' sectors (layer 14), walked out of the record Plate.
  What WalWrites needs: plain words, and what stands in memory.
-/
import Derived.Test.YtfpndphfibfdiaaQ0
import Derived.Test.YtfpndphfibfdiaaQ17
import Derived.Test.YtfpndphfibfdiaaQ19
import Derived.Deep.Slices
import Derived.Test.YtfpndphfibfdiaaQ2
import Derived.Test.YtfpndphfibfdiaaQ12
import Derived.Test.YtfpndphfibfdiaaQ3
namespace Go.Proofs.Ytfpndphfibfdiaa
open Go.ChangeShapes Go.WideShapes Go.ChangeAt Go.RowKit
/-- WHAT A READING OF A SLICE OF FLAGS GIVES. -/
theorem bools_of {H : Type} {enc : TypeId × Value → H} {W : World} {v : Value} {fuel : Nat} {x : DataW H × List MemPlace}
    (hf : DataW.trod enc Try.prog W 0 (fun _ => true) true fuel 39 [v] = some x) : ∃ l : List Bool, ValsAt W v (l.map .bool) := by
  rcases Go.Deep.open_bools Try.underlying39 Try.underlying4 (by kernel_rfl) hf with ⟨hcs, _⟩ | ⟨y, len, cap, Z, hcs, _, hl, hm, _, hcell⟩
  · obtain rfl : v = .slice none 0 0 := by simpa using hcs
    exact ⟨[], vals_nil _⟩
  · obtain rfl : v = .slice (some y) len cap := by simpa using hcs
    have hlv : (((List.range len).map Z).map Value.bool).length = len := by simp
    refine ⟨(List.range len).map Z, some y, cap, by rw [hlv], by rw [hlv]; exact hl, fun h => (by cases h), fun hne => ?_⟩
    have hpos : 0 < len := by
      rcases Nat.eq_zero_or_pos len with h | h
      · subst h; simp at hne
      · exact h
    have c0 := hcell 0 (by omega)
    obtain ⟨b, o, s⟩ := y
    have hs : s = none := by
      cases s with
      | none => rfl
      | some k => simp [Addr.add, World.cell?] at c0; split at c0 <;> simp at c0
    subst hs
    refine ⟨b, o, rfl, fun j v hv => ?_⟩
    have hj : j < len := by
      have := (List.getElem?_eq_some_iff.1 hv).1
      rw [hlv] at this; exact this
    have hc := hcell j (by omega)
    rw [Addr.add_mid] at hc
    rw [hc, ← hv]
    simp [hj]
theorem pick_list {α : Type} {Q : Value → α → Prop} : ∀ (vs : List Value), (∀ u ∈ vs, ∃ a, Q u a) → ∃ l : List α, l.length = vs.length ∧ ∀ (i : Nat) (u : Value) (a : α), vs[i]? = some u → l[i]? = some a → Q u a
  | [], _ => ⟨[], rfl, fun i u a h => by simp at h⟩
  | v :: vs, h => by
    obtain ⟨a, ha⟩ := h v List.mem_cons_self
    obtain ⟨l, hl, hq⟩ := pick_list vs fun u hu => h u (List.mem_cons_of_mem _ hu)
    refine ⟨a :: l, by simp [hl], fun i u b h1 h2 => ?_⟩
    cases i with
    | zero =>
      simp only [List.getElem?_cons_zero, Option.some.injEq] at h1 h2
      subst h1
      subst h2
      exact ha
    | succ i => exact hq i u b (by simpa using h1) (by simpa using h2)
/-- What a reading of a slice gives: its cells, and a reading of each. -/
theorem slice_of {T E : TypeId} (hu : Try.prog.underlying T = some (.slice E)) (ce : Try.prog.cellsOf E = 1) {H : Type} {enc : TypeId × Value → H} {W : World} {v : Value} {fuel : Nat} {x : DataW H × List MemPlace}
    (hf : DataW.trod enc Try.prog W 0 (fun _ => true) true fuel T [v] = some x) : ∃ vs : List Value, ValsAt W v vs ∧ vs.length ≤ 9223372036854775807 ∧ ∀ u ∈ vs, ∃ k y, DataW.trod enc Try.prog W 0 (fun _ => true) true k E [u] = some y := by
  rcases Go.Deep.open_slice hu hf with ⟨hcs, _⟩ | ⟨y, len, cap, m, k, D, Pl, hcs, _, hl, hm, hmm, _, hx⟩
  · obtain rfl : v = .slice none 0 0 := by simpa using hcs
    exact ⟨[], vals_nil _, by simp, fun u hu => by simp at hu⟩
  · obtain rfl : v = .slice (some y) len cap := by simpa using hcs
    have hmc : m = cap := by simpa using hmm
    subst hmc
    have each : ∀ i, i < len → ∃ u : Value, W.cell? (y.add i) = some u ∧ ∃ k z, DataW.trod enc Try.prog W 0 (fun _ => true) true k E [u] = some z := by
      intro i hi
      obtain ⟨cs', h1, h2⟩ := hx i (by omega)
      rw [ce] at h1
      obtain ⟨_, hlen, hcell⟩ := World.cells?_some h1
      obtain ⟨u, rfl⟩ : ∃ u, cs' = [u] := List.length_eq_one_iff.1 hlen
      refine ⟨u, ?_, _, _, h2⟩
      have h3 := hcell 0 (by omega)
      simpa [Addr.add] using h3
    haveI : Inhabited Value := ⟨undef⟩
    obtain ⟨f, hfl⟩ := Go.Deep.choose_lt each
    have hlv : ((List.range len).map f).length = len := by simp
    refine ⟨(List.range len).map f, ⟨some y, m, by rw [hlv], by rw [hlv]; exact hl, fun h => (by cases h), fun hne => ?_⟩, by rw [hlv]; simp only [maxLen] at hm; omega, fun u hu => ?_⟩
    · have hpos : 0 < len := by
        rcases Nat.eq_zero_or_pos len with h | h
        · subst h; simp at hne
        · exact h
      have c0 := (hfl 0 hpos).1
      obtain ⟨b, o, s⟩ := y
      have hs : s = none := by
        cases s with
        | none => rfl
        | some k => simp [Addr.add, World.cell?] at c0; split at c0 <;> simp at c0
      subst hs
      refine ⟨b, o, rfl, fun j v hv => ?_⟩
      have hj : j < len := by
        have := (List.getElem?_eq_some_iff.1 hv).1
        rw [hlv] at this; exact this
      have hc := (hfl j hj).1
      rw [Addr.add_mid] at hc
      rw [hc, ← hv]
      simp [hj]
    · obtain ⟨i, hi, rfl⟩ := List.getElem_of_mem hu
      rw [hlv] at hi
      have := (hfl i hi).2
      simpa using this
theorem bytes_of {H : Type} {enc : TypeId × Value → H} {W : World} {fuel : Nat} {v : Value} {x : DataW H × List MemPlace} (hf : DataW.trod enc Try.prog W 0 (fun _ => true) true fuel 30 [v] = some x) : ∃ b : Bs, BytesAt W v b := by
  obtain ⟨sb, lb, cb, rfl⟩ : ∃ sb lb cb, v = .slice sb lb cb := by
    rcases DataW.trod_slice Try.underlying30 hf with ⟨e, _⟩ | ⟨a, len, cap, _, _, _, _, e, _⟩
    · simp only [List.cons.injEq, and_true] at e
      exact ⟨_, _, _, e⟩
    · simp only [List.cons.injEq, and_true] at e
      exact ⟨_, _, _, e⟩
  exact bytes_arg (show DataW.trod enc Try.prog W 0 (fun _ => true) true fuel 30 (Value.slice sb lb cb).cells.toList = some x from hf)
theorem lists_of {H : Type} {enc : TypeId × Value → H} {W : World} {fuel : Nat} {v : Value} {x : DataW H × List MemPlace} (hf : DataW.trod enc Try.prog W 0 (fun _ => true) true fuel 22 [v] = some x) : ∃ l : List Bs, BLists W v l ∧ l.length ≤ 9223372036854775807 := by
  obtain ⟨vs, h1, h2, h3⟩ := slice_of Try.underlying22 (by kernel_rfl) hf
  obtain ⟨l, hl, hq⟩ := pick_list (Q := fun u (b : Bs) => BytesAt W u b) vs fun u hu => by obtain ⟨k, y, hy⟩ := h3 u hu; exact bytes_of hy
  exact ⟨l, ⟨vs, hl.symm, h1, hq⟩, by omega⟩
theorem lists_arg {H : Type} {enc : TypeId × Value → H} {W : World} {a : Option Addr} {len cap : Nat} {fuel : Nat} {x : DataW H × List MemPlace}
    (hf : DataW.trod enc Try.prog W 0 (fun _ => true) true fuel 22 (Value.slice a len cap).cells.toList = some x) : ∃ l : List Bs, BLists W (.slice a len cap) l := by
  obtain ⟨l, h, _⟩ := lists_of (v := .slice a len cap) (by simpa [Value.cells] using hf)
  exact ⟨l, h⟩
theorem lls_arg {H : Type} {enc : TypeId × Value → H} {W : World} {a : Option Addr} {len cap : Nat} {fuel : Nat} {x : DataW H × List MemPlace}
    (hf : DataW.trod enc Try.prog W 0 (fun _ => true) true fuel 47 (Value.slice a len cap).cells.toList = some x) : ∃ (l : List Value × List (List Bs)), LLAt W (.slice a len cap) l.1 l.2 ∧ ∀ y ∈ l.2, y.length ≤ 9223372036854775807 := by
  obtain ⟨vs, h1, h2, h3⟩ := slice_of (v := .slice a len cap) Try.underlying47 (by kernel_rfl) (by simpa [Value.cells] using hf)
  obtain ⟨l, hl, hq⟩ := pick_list (Q := fun u (b : List Bs) => BLists W u b ∧ b.length ≤ 9223372036854775807) vs fun u hu => by obtain ⟨k, y, hy⟩ := h3 u hu; exact lists_of hy
  refine ⟨(vs, l), ⟨h1, hl.symm, fun i v y e1 e2 => (hq i v y e1 e2).1⟩, fun y hy => ?_⟩
  obtain ⟨i, hi, rfl⟩ := List.getElem_of_mem hy
  exact (hq i _ _ (List.getElem?_eq_getElem (by show i < vs.length; have : i < l.length := hi; omega)) (List.getElem?_eq_getElem hi)).2
theorem keeps_arg {H : Type} {enc : TypeId × Value → H} {W : World} {a : Option Addr} {len cap : Nat} {fuel : Nat} {x : DataW H × List MemPlace}
    (hf : DataW.trod enc Try.prog W 0 (fun _ => true) true fuel 50 (Value.slice a len cap).cells.toList = some x) : ∃ (l : List Value × List (List Bool)), KeepsAt W (.slice a len cap) l.1 l.2 := by
  obtain ⟨vs, h1, _, h3⟩ := slice_of (v := .slice a len cap) Try.underlying50 (by kernel_rfl) (by simpa [Value.cells] using hf)
  obtain ⟨l, hl, hq⟩ := pick_list (Q := fun u (b : List Bool) => ValsAt W u (b.map .bool)) vs fun u hu => by obtain ⟨k, y, hy⟩ := h3 u hu; exact bools_of hy
  exact ⟨(vs, l), h1, hl.symm, hq⟩
/-- WHAT A READING OF A SLICE OF TURNS GIVES. -/
theorem turns_arg {H : Type} {enc : TypeId × Value → H} {W : World} {a : Option Addr} {len cap : Nat} {fuel : Nat} {x : DataW H × List MemPlace}
    (hf : DataW.trod enc Try.prog W 0 (fun _ => true) true fuel 38 (Value.slice a len cap).cells.toList = some x) : ∃ l : List TurnP, TurnsAt W (.slice a len cap) l := by
  rcases Go.Deep.open_slice Try.underlying38 hf with ⟨hcs, _⟩ | ⟨y, n, c, m, k, D, Pl, hcs, _, hl, hm, hmm, _, hx⟩
  · simp [Value.cells] at hcs
    obtain ⟨rfl, rfl, rfl⟩ := hcs
    exact ⟨[], none, 0, rfl, fun h => absurd rfl h⟩
  · simp [Value.cells] at hcs
    obtain ⟨rfl, rfl, rfl⟩ := hcs
    have hmc : m = cap := by simpa using hmm
    subst hmc
    have ce : Try.prog.cellsOf 41 = 3 := by kernel_rfl
    have each : ∀ i, i < len → ∃ q : TurnP × Value × Value, -9223372036854775808 ≤ q.1.arm ∧ q.1.arm ≤ 9223372036854775807 ∧ q.1.list.length ≤ 9223372036854775807 ∧ W.cell? (y.add (i * 3 + 0)) = some q.2.1 ∧ W.cell? (y.add (i * 3 + 1)) = some (.int .i64 q.1.arm) ∧ W.cell? (y.add (i * 3 + 2)) = some q.2.2 ∧ BLists W q.2.1 q.1.list ∧ ValsAt W q.2.2 (q.1.keep.map .bool) := by
      intro i hi
      obtain ⟨cs', h1, h2⟩ := hx i (by omega)
      rw [ce] at h1
      obtain ⟨_, hlen, hcell⟩ := World.cells?_some h1
      obtain ⟨xs, k, hk, hxy, _, hxl, hfs⟩ := DataW.trod_struct Try.underlying41 h2
      match xs, hxl, cs', hlen with
      | [y0, y1, y2], _, [v0, v1, v2], _ =>
        have q3 : Try.prog.cellsOf 3 = 1 := by kernel_rfl
        have qb : Try.prog.cellsOf 22 = 1 := by kernel_rfl
        have qt : Try.prog.cellsOf 39 = 1 := by kernel_rfl
        have g0 : DataW.trod enc Try.prog W 0 (fun _ => true) true k 22 [v0] = some y0 := by
          have h : DataW.trod enc Try.prog W 0 (fun _ => true) true k 22 (([v0, v1, v2].drop 0).take (Try.prog.cellsOf 22)) = [y0, y1, y2][0]? := hfs 0 _ rfl
          rw [qb] at h
          exact h
        have g1 : DataW.trod enc Try.prog W 0 (fun _ => true) true k 3 [v1] = some y1 := by
          have h : DataW.trod enc Try.prog W 0 (fun _ => true) true k 3 (([v0, v1, v2].drop 1).take (Try.prog.cellsOf 3)) = [y0, y1, y2][1]? := hfs 1 _ rfl
          rw [q3] at h
          exact h
        have g2 : DataW.trod enc Try.prog W 0 (fun _ => true) true k 39 [v2] = some y2 := by
          have h : DataW.trod enc Try.prog W 0 (fun _ => true) true k 39 (([v0, v1, v2].drop 2).take (Try.prog.cellsOf 39)) = [y0, y1, y2][2]? := hfs 2 _ rfl
          rw [qt] at h
          exact h
        obtain ⟨z1, e1, _, w1⟩ := DataW.trod_int Try.underlying3 g1
        obtain ⟨l, hll, hlb⟩ := lists_of g0
        obtain ⟨kp, hkp⟩ := bools_of g2
        simp only [List.cons.injEq, and_true] at e1
        subst e1
        have hb := bounds_i64 w1
        have c0 := hcell 0 (by omega)
        have c1 := hcell 1 (by omega)
        have c2 := hcell 2 (by omega)
        rw [Go.Deep.add_add] at c0 c1 c2
        exact ⟨(⟨l, z1, kp⟩, v0, v2), hb.1, hb.2, hlb, c0, c1, c2, hll, hkp⟩
    haveI : Inhabited (TurnP × Value × Value) := ⟨(⟨[], 0, []⟩, undef, undef)⟩
    obtain ⟨f, hfl⟩ := Go.Deep.choose_lt each
    have hll : ((List.range len).map fun i => (f i).1).length = len := by simp
    refine ⟨(List.range len).map fun i => (f i).1, some y, m, by rw [hll], fun hne => ?_⟩
    have hpos : 0 < len := by
      rcases Nat.eq_zero_or_pos len with h | h
      · subst h; simp at hne
      · exact h
    have c0 := (hfl 0 hpos).2.2.2.1
    obtain ⟨b, o, s⟩ := y
    have hs : s = none := by
      cases s with
      | none => rfl
      | some k => simp [Addr.add, World.cell?] at c0; split at c0 <;> simp at c0
    subst hs
    refine ⟨b, o, rfl, fun i t hi => ?_⟩
    have hil : i < len := by
      have := (List.getElem?_eq_some_iff.1 hi).1
      rw [hll] at this; exact this
    rw [List.getElem?_map, List.getElem?_range hil] at hi
    simp only [Option.map_some, Option.some.injEq] at hi
    subst hi
    obtain ⟨h1, h2, h3, h4, h5, h6, h7, h8⟩ := hfl i hil
    rw [Addr.add_mid] at h4 h5 h6
    exact ⟨h1, h2, h3, (f i).2.1, (f i).2.2, h4, by rw [Nat.add_assoc]; exact h5, by rw [Nat.add_assoc]; exact h6, h7, h8⟩
end Go.Proofs.Ytfpndphfibfdiaa
namespace Go.Proofs.Ytfpndphfibfdiaa
open Go.RowKit
/-- What stands in the loop of sectors. -/
structure SeI (l : List Bs) (w1 wr : World) (ov : Value) (i : Nat) (vs : List Value) : Prop where
  len : vs.length = i
  own : OwnV 30 wr w1.heap.size ov vs
  each : ∀ (k : Nat) (v : Value) (b : Bs), vs[k]? = some v → l[k]? = some b → BytesAt wr v b ∧ ∀ q, b ≠ [] → v.ownBlock = some q → ov.ownBlock ≠ some q ∧ q < wr.heap.size
  b : Below w1.heap.size w1 wr
theorem SeI.next {l : List Bs} {w1 wr w3 w5 : World} {ov v' s : Value} {i : Nat} {vs : List Value} {T : TypeId} {b : Bs} (h : SeI l w1 wr ov i vs) (hb : l[i]? = some b) (hs : OwnA w3 wr.heap.size s b) (hb3 : Below wr.heap.size wr w3)
    (ho : OwnV 30 w5 w1.heap.size v' (vs ++ [s])) (hg : (w3.alloc (.cells #[s] T)).grownBy w5 ov.ownBlock) (hor : v'.ownBlock = ov.ownBlock ∨ v'.ownBlock = some (w3.alloc (.cells #[s] T)).heap.size) : SeI l w1 w5 v' (i + 1) (vs ++ [s]) := by
  have hb4 : Below wr.heap.size wr (w3.alloc (.cells #[s] T)) := hb3.alloc hb3.size _
  have hs4 : (w3.alloc (.cells #[s] T)).heap.size = w3.heap.size + 1 := by simp
  have hb34 : Below w3.heap.size w3 (w3.alloc (.cells #[s] T)) := (Below.refl _ _).alloc (Nat.le_refl _) _
  obtain ⟨w4, hw4⟩ : ∃ x, w3.alloc (.cells #[s] T) = x := ⟨_, rfl⟩
  rw [hw4] at hg hor hb4 hs4 hb34
  have hlt : ∀ q, ov.ownBlock = some q → q < wr.heap.size := fun q hq => (World.ownsRow.lt h.own q hq).2
  have hA : Aside (fun k => ov.ownBlock = some k) w4 w5 := Aside.of_grown hg fun k hk => hk
  have hsz := hb3.size
  have h5 := hg.size
  have hap : ∀ q, q < w4.heap.size → ov.ownBlock ≠ some q → v'.ownBlock ≠ some q := fun q hq hn e => by
    rcases hor with h1 | h1
    · exact hn (h1 ▸ e)
    · rw [h1] at e; simp only [Option.some.injEq] at e; omega
  have hsb : ∀ q, s.ownBlock = some q → wr.heap.size ≤ q ∧ q < w3.heap.size := fun q hq => by obtain ⟨e, hs⟩ := hs; exact World.ownsRow.lt hs q hq
  refine ⟨by rw [List.length_append, h.len]; rfl, ho, fun k v c hv hc => ?_, ?_⟩
  · by_cases hk : k < vs.length
    · rw [List.getElem?_append_left hk] at hv
      obtain ⟨e1, e2⟩ := h.each k v c hv hc
      refine ⟨ValsAt.beside (e1.below hb4) hA fun hne q hq hS => (e2 q (by intro e; rw [e] at hne; simp at hne) hq).1 hS, fun q hne hq => ?_⟩
      have := (e2 q hne hq).2
      have := hb4.size
      exact ⟨hap q (by omega) (e2 q hne hq).1, by omega⟩
    · rw [List.getElem?_append_right (by omega)] at hv
      match hkk : k - vs.length, hv with
      | 0, hv =>
        simp only [List.getElem?_cons_zero, Option.some.injEq] at hv
        subst hv
        have hki : k = i := by have := h.len; omega
        subst hki
        rw [hb] at hc
        have := Option.some.inj hc
        subst this
        refine ⟨(hs.bytes.below hb34).aside hA fun q hq hS => ?_, fun q _ hq => ?_⟩
        · have := hlt q hS; have := (hsb q hq).1; omega
        · have h1 := hsb q hq
          exact ⟨hap q (by omega) (fun e => by have := hlt q e; omega), by omega⟩
      | j + 1, hv => simp at hv
  · have h1 : Below w1.heap.size w1 w4 := h.b.trans (hb4.mono h.b.size)
    exact h1.trans (hA.below (Nat.le_trans h.b.size hb4.size) fun k hk => (World.ownsRow.lt h.own k hk).1)
section
variable {PAt : Set_ → Set_ → World → Value → PS → Prop} (HP : Plate PAt)
set_option maxRecDepth 100000 in
set_option maxHeartbeats 8000000 in
include HP in
theorem lsectors_c {S R : Set_} {w : World} {pa : Addr} {s : PS} (hp : PAt S R w (.pointer (some pa)) s) (a n : Nat) (hd : s.down = false) (hf : a + n ≤ s.safe.length) (hl : s.loose.length ≤ 100000) (hn : n ≤ 16384) (ha : a ≤ 16384) :
    Calls Try.prog 13 #[.pointer (some pa), .int .i64 (a : Int), .int .i64 ((a + n : Nat) : Int)] w fun e w' => ∃ v, e = .returned v ∧ BLists w' v (W.partOf (contentS s) a n) ∧ Below w.heap.size w w' := by
  obtain ⟨N, hN⟩ : ∃ N, a + n = N := ⟨_, rfl⟩
  have HN := hide hN
  have Hp := hide hp
  have Hd := hide hd
  have Hf := hide hf
  have Hl := hide hl
  have hNb : N ≤ 32768 := by omega
  rw [hN]
  have HS0 : Hid (SeI (W.partOf (contentS s) a n) w w (.slice none 0 0) 0 []) := ⟨rfl, own_nil _ _ _, fun k v b hv => by simp at hv, Below.refl _ _⟩
  clear hp hd hf hl hN
  go_enter Try.func13, Try.ntmps13
  go_wp2
  go_loopw [7, 8] (fun oo ii wr => ∃ (i co : Nat) (so : Option Addr) (vs : List Value), i ≤ n ∧ oo = .slice so i co ∧ ii = .int .i64 ((a + i : Nat) : Int) ∧ Hid (SeI (W.partOf (contentS s) a n) w wr (.slice so i co) i vs)) (fun _ ii _ => N - (intOf ii).toNat)
  case atStart => exact ⟨0, 0, none, [], by omega, rfl, rfl, HS0⟩
  case round =>
    clear HS0
    obtain ⟨i, co, so, vs, hi, rfl, rfl, HS⟩ := hrel
    obtain ⟨A, hA⟩ : ∃ A, a + i = A := ⟨_, rfl⟩
    rw [hA]
    have hAb : A ≤ N := by have := unhide HN; omega
    by_cases hlt : i < n
    · have hAN : A < N := by have := unhide HN; omega
      have f1 : decide ((A : Int) < (N : Int)) = true := by simp; omega
      have f1n : decide (A < N) = true := by simp; omega
      have f2 : (A : Int) < (N : Int) := by omega
      obtain ⟨r1, r2⟩ := read_part (unhide Hd) (unhide Hf) hlt
      rw [hA] at r1 r2
      have Hr := hide (HP.read (A : Int) (HP.kept (unhide Hp) (T := none_) (Aside.of_below (unhide HS).b) fun _ h => h.elim) (unhide Hl) (by omega) (by omega))
      obtain ⟨RB, hRB⟩ : ∃ y, readB s (A : Int) = y := ⟨_, rfl⟩
      rw [r1, hRB] at Hr
      rw [hRB] at r2
      have HR2 := hide r2
      obtain ⟨RL, hRL⟩ : ∃ y, RB.length = y := ⟨_, rfl⟩
      have HRL := hide hRL
      have HAi : Hid (a + (i + 1) = A + 1) := by show _ = _; omega
      clear r1 r2 hRB hRL hA
      go_wp2_with fail
      refine (unhide Hr).mono ?_
      rintro e w3 ⟨v, rfl, hO, hb3⟩
      obtain ⟨s3, c3, rfl⟩ := hO.form
      rw [unhide HRL] at hO
      have HO3 := hide hO
      have HB3 := hide hb3
      have HOv : Hid (OwnV 30 (w3.alloc (.cells #[.slice s3 RL c3] 30)) w.heap.size (.slice so i co) vs) := ((unhide HS).own.below hb3).alloc _
      have HVn : Hid (ValsAt (w3.alloc (.cells #[.slice s3 RL c3] 30)) (.slice (some ⟨w3.heap.size, 0, none⟩) 1 1) [.slice s3 RL c3]) := vals_new w3 [.slice s3 RL c3] 30
      have HSz : Hid (w.heap.size ≤ (w3.alloc (.cells #[.slice s3 RL c3] 30)).heap.size) := by have h1 := (unhide HS).b.size; have h2 := hb3.size; show _ ≤ _; simp; omega
      have hvl := (unhide HS).len
      have HVl : Hid (vs.length ≤ 100000) := by show _ ≤ _; omega
      rw [unhide HRL]
      clear hO hb3 Hr hvl
      go_wp2_with (at_builtin; refine wpList_append_vals Ebb rfl _ _ rfl w.heap.size (.slice so i co) (.slice (some ⟨w3.heap.size, 0, none⟩) 1 1) vs [.slice s3 RL c3] rfl (unhide HOv) rfl (unhide HVn) (by simp [Value.oneCell']) (unhide HSz) (by have := unhide HVl; simp; omega) ?_
                   intro v5 w5 ho5 hg5 hor5
                   have HNx := hide ((unhide HS).next (unhide HR2) (unhide HO3) (unhide HB3) ho5 hg5 hor5)
                   obtain ⟨s5, c5, hv5⟩ := ho5.form
                   rw [List.length_append, (unhide HS).len, List.length_singleton] at hv5
                   subst hv5
                   clear ho5 hg5 hor5)
      refine ⟨⟨i + 1, c5, s5, _, by omega, rfl, ?_, HNx⟩, ?_⟩
      · rw [unhide HAi]; simp
      · simp [intOf]; omega
    · obtain rfl : i = n := by omega
      have hAN : A = N := by have := unhide HN; omega
      subst hAN
      have f1 : decide ((A : Int) < (A : Int)) = false := by simp
      have HE : Hid (BLists wr (.slice so i co) (W.partOf (contentS s) a i)) := ⟨vs, by rw [(unhide HS).len, W.partOf_len (by unfold contentS; rw [apply_len]; exact unhide Hf)], (unhide HS).own.vals, fun k v b h1 h2 => ((unhide HS).each k v b h1 h2).1⟩
      have HB := hide (unhide HS).b
      clear HS hA
      go_wp2
      go_ret
      exact ⟨_, rfl, unhide HE, unhide HB⟩
end
end Go.Proofs.Ytfpndphfibfdiaa
namespace Go.Proofs.Ytfpndphfibfdiaa
open Go.RowKit
theorem mix_all {new old : List Bs} (h : new.length ≤ old.length) : mixS (fun _ => true) new old = new ++ old.drop new.length := by
  refine List.ext_getElem? fun i => ?_
  by_cases hi : i < old.length
  · by_cases hn : i < new.length
    · rw [mix_new hi hn rfl, List.getElem?_append_left hn]
    · rw [mix_old hi (by omega), List.getElem?_append_right (by omega), List.getElem?_drop, show new.length + (i - new.length) = i by omega]
  · rw [List.getElem?_eq_none (by rw [mix_len]; omega), List.getElem?_eq_none]
    rw [List.length_append, List.length_drop]
    omega
/-- A log whose sectors hold just these, and noughts behind them. -/
structure WI (g sz : Nat) (s : PS) (L : LS) (want : List Bs) (n : Nat) : Prop where
  log : LogI L s
  shut : L.shut = false
  gen : L.gen = g
  start : L.start = 3
  size : L.size = sz
  op : L.opening = 1
  count : L.rs.length = n
  used : usedR L.rs = want.length
  left : s.left < 0
  len : s.safe.length = 128
  part : W.partOf s.safe 3 sz = want ++ List.replicate (sz - want.length) zeros
theorem WI.fit {g sz n : Nat} {s : PS} {L : LS} {want : List Bs} (h : WI g sz s L want n) : want.length ≤ sz ∧ n ≤ sz := by
  have h1 := used_le h.log.st
  rw [W.partOf_len h.log.fit, h.size] at h1
  have := few_used L.rs
  rw [h.used] at h1 this
  rw [h.count] at this
  omega
theorem WI.yes {g sz n : Nat} {s : PS} {L : LS} {want : List Bs} {b : Bs} (h : WI g sz s L want n) (hb : b.length ≤ 65536) (hr : want.length + needs b.length ≤ sz) : appendE L s b = 0 ∧ WI g sz (appendP L s b) (appendL L s b) (want ++ recS b g 1 (n + 1)) (n + 1) := by
  have hr' : usedR L.rs + needs b.length ≤ L.size := by rw [h.size, h.used]; exact hr
  obtain ⟨e1, e2, e3, e4⟩ := append_yes h.log h.shut h.left hb hr'
  have hlen : (nextS L b).length = needs b.length := rec_len _ _ _ _
  have hnx : nextS L b = recS b g 1 (n + 1) := by unfold nextS; rw [h.gen, h.op, h.count]
  refine ⟨e1, ⟨e2, by rw [e3], by rw [e3]; exact h.gen, by rw [e3]; exact h.start, by rw [e3]; exact h.size, by rw [e3]; exact h.op, by rw [e3, List.length_append, h.count]; rfl, ?_, e4, by rw [append_length h.log h.shut h.left hb hr']; exact h.len, ?_⟩⟩
  · rw [e3, used_app, h.used, List.length_append, rec_len]
  · have hfit : 3 + sz ≤ s.safe.length := by have := h.log.fit; rw [h.start, h.size] at this; exact this
    have hp := h.part
    rw [append_safe h.log h.shut h.left hb hr', h.start, h.used, W.sync_part hfit (by rw [hlen]; exact hr), hp, List.take_left, List.drop_left, mix_all (by rw [hlen, List.length_replicate]; omega), hlen, hnx, List.drop_replicate, List.length_append, rec_len, List.append_assoc, show sz - want.length - needs b.length = sz - (want.length + needs b.length) by omega]
theorem wi_new (sz g : Nat) (hs : sz ≤ 120) (hg0 : 1 ≤ g) (hg : g < 2147483648) : openL (newS 128) 3 sz g = ⟨3, sz, g, 1, [], false⟩ ∧ WI g sz (newS 128) ⟨3, sz, g, 1, [], false⟩ [] 0 := by
  obtain ⟨e, h⟩ := open_new 128 3 sz g (by omega) (by omega) hg0 hg
  refine ⟨e, ⟨h, rfl, rfl, rfl, rfl, rfl, rfl, rfl, by decide, List.length_replicate, ?_⟩⟩
  show W.partOf (List.replicate 128 zeros) 3 sz = [] ++ List.replicate (sz - 0) zeros
  unfold W.partOf
  rw [List.drop_replicate, List.take_replicate, Nat.min_eq_left (by omega), List.nil_append, Nat.sub_zero]
/-- The slice of sectors that is wanted. -/
structure WtAt (S R S2 R2 : Set_) (wr : World) (base : Nat) (wv : Value) (vs : List Value) (l : List Bs) : Prop where
  own : OwnV 30 wr base wv vs
  len : vs.length = l.length
  each : ∀ (i : Nat) (v : Value) (b : Bs), vs[i]? = some v → l[i]? = some b → BytesAt wr v b ∧ ∀ k, b ≠ [] → v.ownBlock = some k → Off S R S2 R2 k ∧ wv.ownBlock ≠ some k ∧ k < wr.heap.size
  off : ∀ k, wv.ownBlock = some k → Off S R S2 R2 k
theorem WtAt.lists {S R S2 R2 : Set_} {wr : World} {base : Nat} {wv : Value} {vs : List Value} {l : List Bs} (h : WtAt S R S2 R2 wr base wv vs l) : BLists wr wv l := ⟨vs, h.len, h.own.vals, fun i v b h1 h2 => (h.each i v b h1 h2).1⟩
theorem WtAt.below {S R S2 R2 : Set_} {wr w' : World} {base : Nat} {wv : Value} {vs : List Value} {l : List Bs} (h : WtAt S R S2 R2 wr base wv vs l) (hb : Below wr.heap.size wr w') : WtAt S R S2 R2 w' base wv vs l :=
  ⟨h.own.below hb, h.len, fun i v b h1 h2 => ⟨(h.each i v b h1 h2).1.below hb, fun k hne hk => let q := (h.each i v b h1 h2).2 k hne hk; ⟨q.1, q.2.1, Nat.lt_of_lt_of_le q.2.2 hb.size⟩⟩, h.off⟩
theorem WtAt.app {S R S2 R2 S' R' S2' R2' : Set_} {wr w' : World} {base : Nat} {wv : Value} {vs : List Value} {l : List Bs} (h : WtAt S R S2 R2 wr base wv vs l) (ha : Aside (fun k => S k ∨ S2 k) wr w') (hl : Later S R S2 R2 S' R' S2' R2' wr.heap.size) : WtAt S' R' S2' R2' w' base wv vs l := by
  have hno : ∀ k, Off S R S2 R2 k → ¬ (S k ∨ S2 k) := fun k ho h1 => h1.elim ho.1.1 ho.2.1
  refine ⟨h.own.aside ha fun k hk => hno k (h.off k hk), h.len, fun i v b h1 h2 => ?_, fun k hk => hl k (World.ownsRow.lt h.own k hk).2 (h.off k hk)⟩
  obtain ⟨h3, h4⟩ := h.each i v b h1 h2
  refine ⟨ValsAt.beside h3 ha fun hne k hk => hno k (h4 k (by intro e; rw [e] at hne; simp at hne) hk).1, fun k hne hk => ?_⟩
  obtain ⟨h5, h6, h7⟩ := h4 k hne hk
  exact ⟨hl k h7 h5, h6, Nat.lt_of_lt_of_le h7 ha.size⟩
/-- More are put behind them. -/
theorem WtAt.push {S R S2 R2 : Set_} {wr w' : World} {base : Nat} {wv wv' : Value} {vs us : List Value} {l m : List Bs} (h : WtAt S R S2 R2 wr base wv vs l) (hm : us.length = m.length) (hu : ∀ (i : Nat) (v : Value) (b : Bs), us[i]? = some v → m[i]? = some b → BytesAt wr v b ∧ ∀ k, b ≠ [] → v.ownBlock = some k → Off S R S2 R2 k ∧ wv.ownBlock ≠ some k ∧ k < wr.heap.size)
    (ho : OwnV 30 w' base wv' (vs ++ us)) (hg : Aside (fun k => wv.ownBlock = some k) wr w') (hor : wv'.ownBlock = wv.ownBlock ∨ wv'.ownBlock = some wr.heap.size) (hn : Off S R S2 R2 wr.heap.size) : WtAt S R S2 R2 w' base wv' (vs ++ us) (l ++ m) := by
  have key : ∀ (v : Value) (b : Bs), (BytesAt wr v b ∧ ∀ k, b ≠ [] → v.ownBlock = some k → Off S R S2 R2 k ∧ wv.ownBlock ≠ some k ∧ k < wr.heap.size) → BytesAt w' v b ∧ ∀ k, b ≠ [] → v.ownBlock = some k → Off S R S2 R2 k ∧ wv'.ownBlock ≠ some k ∧ k < w'.heap.size := by
    rintro v b ⟨h3, h4⟩
    refine ⟨ValsAt.beside h3 hg fun hne k hk hq => (h4 k (by intro e; rw [e] at hne; simp at hne) hk).2.1 hq, fun k hne hk => ?_⟩
    obtain ⟨h5, h6, h7⟩ := h4 k hne hk
    refine ⟨h5, fun e => ?_, Nat.lt_of_lt_of_le h7 hg.size⟩
    rcases hor with h8 | h8
    · exact h6 (h8 ▸ e)
    · rw [h8] at e; have := Option.some.inj e; omega
  refine ⟨ho, by simp [h.len, hm], fun i v b h1 h2 => ?_, fun k hk => ?_⟩
  · by_cases hi : i < vs.length
    · rw [List.getElem?_append_left hi] at h1
      rw [List.getElem?_append_left (by have := h.len; omega)] at h2
      exact key v b (h.each i v b h1 h2)
    · rw [List.getElem?_append_right (by omega)] at h1
      rw [List.getElem?_append_right (by have := h.len; omega), ← h.len] at h2
      exact key v b (hu _ v b h1 h2)
  · rcases hor with h8 | h8
    · exact h.off k (h8 ▸ hk)
    · rw [h8] at hk; have := Option.some.inj hk; subst this; exact hn
end Go.Proofs.Ytfpndphfibfdiaa
