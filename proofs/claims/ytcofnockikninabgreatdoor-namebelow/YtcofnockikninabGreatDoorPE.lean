/-
  The walks of the landed timeBytes and TimeValue.
-/
import Derived.Test.YtcofnockikninabGreatDoorPA
import Derived.Test.YtcofnockikninabGreatDoorMA
import Derived.Test.YtcofnockikninabGreatDoorDtime9
import Derived.Test.YtcofnockikninabGreatDoorKg
namespace Go.Proofs.YtcofnockikninabGreatDoor
open Go.RowKit
def nv (n : Nat) : Value := .int .i64 (n : Int)
/-- Two digits for each number. -/
def twos (l : List Nat) : Bs := l.flatMap fun n => [dig (n / 10), dig (n % 10)]
theorem twos_len (l : List Nat) : (twos l).length = 2 * l.length := by
  unfold twos
  induction l with
  | nil => rfl
  | cons a l ih => rw [List.flatMap_cons, List.length_append, ih]; simp; omega
theorem twos_snoc (l : List Nat) (n : Nat) : twos (l ++ [n]) = twos l ++ [dig (n / 10), dig (n % 10)] := by simp [twos]
theorem take_snocN {l : List Nat} {i : Nat} (hi : i < l.length) : l.take (i + 1) = l.take i ++ [l.getD i 0] := by
  rw [List.take_add_one, List.getElem?_eq_getElem hi, List.getD_eq_getElem?_getD, List.getElem?_eq_getElem hi]; rfl
namespace N
theorem ValsAt.int {w : World} {sp : Option Addr} {N c : Nat} {l : List Nat} (h : ValsAt w (.slice sp N c) (l.map nv)) (k : Nat) (hk : k < l.length) : ∃ ba oa, sp = some ⟨ba, oa, none⟩ ∧ w.cell? ⟨ba, oa + k, none⟩ = some (.int .i64 (l.getD k 0 : Int)) := by
  obtain ⟨b, o, c2, e, _, _, hc⟩ := ValsAt.cell h (fun e => by rw [List.map_eq_nil_iff] at e; rw [e] at hk; simp at hk)
  simp only [Value.slice.injEq] at e
  refine ⟨b, o, e.1, ?_⟩
  rw [hc k (by simpa using hk), List.getD_eq_getElem?_getD, List.getElem?_map, List.getElem?_eq_getElem hk]
  simp [nv, List.getD_eq_getElem?_getD, hk]
theorem two_lit (w : World) (p q : Nat) (hp : p ≤ 9) (hq : q ≤ 9) : BytesAt (w.alloc (.cells #[.int .u8 ((48 + p : Nat) : Int), .int .u8 ((48 + q : Nat) : Int)] 5)) (.slice (some ⟨w.heap.size, 0, none⟩) 2 2) [dig p, dig q] := by
  have := bytes_new w [dig p, dig q]
  simp only [List.map_cons, List.map_nil, bv, dig_toNat hp, dig_toNat hq] at this
  exact this
end N
end Go.Proofs.YtcofnockikninabGreatDoor
/-
  The walk of the landed TimeValue.
-/
namespace Go.Proofs.YtcofnockikninabGreatDoor
open Go.RowKit
/-- The value of a time on a date. -/
def timeDV (T y m d : Nat) : DV :=
  if y < 2050 then .mk 0 23 false (twos [y % 100, m, d, T % 86400 / 3600, T % 86400 / 60 % 60, T % 86400 % 60] ++ [90]) []
  else .mk 0 24 false (twos [y / 100, y % 100, m, d, T % 86400 / 3600, T % 86400 / 60 % 60, T % 86400 % 60] ++ [90]) []
/-- What is told of a time as a number. -/
def TimeV (t : Int) (er : Nat) (V : DV) : Prop :=
  ((t < 0 ∨ 253402300799 < t) ∧ er = 32 ∧ V = .mk 0 0 false [] []) ∨ (0 ≤ t ∧ t ≤ 253402300799 ∧ er = 0 ∧ ∃ y m d, DateIs (t.toNat / 86400) y m d ∧ V = timeDV t.toNat y m d)
theorem TimeV.one {t : Int} {er er' : Nat} {V V' : DV} (h : TimeV t er V) (k : TimeV t er' V') : er = er' ∧ V = V' := by
  rcases h with ⟨h1, h2, h3⟩ | ⟨h1, h2, h3, y, m, d, h4, h5⟩ <;> rcases k with ⟨k1, k2, k3⟩ | ⟨k1, k2, k3, y', m', d', k4, k5⟩
  · exact ⟨h2.trans k2.symm, h3.trans k3.symm⟩
  · omega
  · omega
  · obtain ⟨rfl, rfl, rfl⟩ := h4.one k4
    exact ⟨h3.trans k3.symm, h5.trans k5.symm⟩
namespace N
open K
/-- The zero value, or one of bytes of the call's own, in five cells. -/
theorem zero_val (S : Nat → Prop) (w : World) : ValAt S w [.int .i64 0, .int .i64 0, .bool false, .slice none 0 0, .slice none 0 0] (.mk 0 0 false [] []) :=
  ⟨1, .slice none 0 0, none, 0, rfl, bytes_nil w, fun h => absurd rfl h, ⟨by simp [DV.bytes], by simp [DV.kids]⟩, by simp [DV.kids], fun _ => rfl, fun h => absurd rfl h⟩
theorem leaf_val {w0 w : World} {x : Value} {b : Bs} (c t : Int) (h : OwnB w w0.heap.size x b) (hl : b.length ≤ 9223372036854775807) : ValAt (fun k => w0.heap.size ≤ k) w [.int .i64 c, .int .i64 t, .bool false, x, .slice none 0 0] (.mk c t false b []) :=
  ⟨1, x, none, 0, rfl, h.bytes, fun _ k hk => OwnV.fresh h k hk, ⟨by simpa [DV.bytes] using hl, by simp [DV.kids]⟩, by simp [DV.kids], fun _ => rfl, fun h => absurd rfl h⟩
theorem own_setRow {w : World} {base R : Nat} {v : Value} {l : Bs} (h : OwnB w base v l) (hR : R < base) (cs : Array Value) : OwnB (w.setRow R cs) base v l := by
  obtain ⟨h1, h2⟩ := h
  refine ⟨h1, ?_⟩
  rcases h2 with h2 | ⟨g, cap, cur, a, b, c, d⟩
  · exact .inl h2
  · exact .inr ⟨g, cap, cur, a, b, by simp only [World.setRow]; rw [Array.getElem?_modify, if_neg (by omega)]; exact c, d⟩
theorem cells_vals {w : World} {B : Nat} {cs : List Value} {T : TypeId} (h : w.heap[B]? = some (.cells cs.toArray T (0, 0))) (k n : Nat) (hn : (cs.drop k).length = n) : ValsAt w (.slice (some ⟨B, k, none⟩) n n) (cs.drop k) := by
  refine ⟨some ⟨B, k, none⟩, n, by rw [hn], by omega, fun e => (by cases e), fun _ => ⟨B, k, rfl, fun j v hv => ?_⟩⟩
  rw [cell_of_row w B _ _ T (0, 0) h]
  rw [List.getElem?_drop] at hv
  simpa using hv
end N
end Go.Proofs.YtcofnockikninabGreatDoor
