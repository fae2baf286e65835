/-
  StoreTables: changes in rows that have just been made; their bytes.
-/
import Derived.Test.YtbjgknoipbekoaaGreatQ28
import Derived.Test.YtbjgknoipbekoaaGreatQ25
import Derived.Lib.SlBytesConst
namespace Go.Proofs.YtbjgknoipbekoaaGreat
open Go.RowKit
theorem i64_xor_nat (a b : Nat) (ha : a < 4294967296) (hb : b < 4294967296) : bits .xor .i64 (a : Int) (b : Int) = ((a ^^^ b : Nat) : Int) := by
  have hx : a ^^^ b < 2 ^ 32 := Nat.xor_lt_two_pow (by omega) (by omega)
  show IntKind.i64.wrap ((BitVec.ofInt 64 (a : Int) ^^^ BitVec.ofInt 64 (b : Int)).toNat : Int) = _
  rw [BitVec.toNat_xor, ofInt_i64 a (by omega), ofInt_i64 b (by omega), IntKind.wrap_i64]
  omega
theorem ChV.lower {B B' : Nat} {w : World} {c : Ch} {kv vv : Value} (h : ChV B w c kv vv) (hB : B' ≤ B) : ChV B' w c kv vv := ⟨h.key, h.val, fun hne k hk => Nat.le_trans hB (h.kb hne k hk), fun hne k hk => Nat.le_trans hB (h.vb hne k hk)⟩
theorem vals_cell {w : World} {g m c : Nat} {vs : List Value} (h : ValsAt w (.slice (some ⟨g, 0, none⟩) m c) vs) (hne : vs ≠ []) {i : Nat} {v : Value} (hv : vs[i]? = some v) : w.cell? ⟨g, i, none⟩ = some v := by
  obtain ⟨g', o', c', e, _, _, hcell⟩ := ValsAt.cell h hne
  simp only [Value.slice.injEq, Option.some.injEq, Addr.mk.injEq] at e
  obtain ⟨⟨rfl, rfl, _⟩, _, _⟩ := e
  have h1 := hcell i (List.getElem?_eq_some_iff.1 hv).1
  rw [Nat.zero_add, List.getD_eq_getElem?_getD, hv] at h1
  exact h1
theorem chs_one {K : Set_} {B : Nat} {w : World} {T : TypeId} {c0 : Ch} {k0 v0 : Value} (h0 : ChV B w c0 k0 v0) (hB : B ≤ w.heap.size) (hK : ∀ j, B ≤ j → K j) : ChsAt K (w.alloc (.cells #[k0, v0, .bool c0.gone] T)) (.slice (some ⟨w.heap.size, 0, none⟩) 1 1) [c0] := by
  obtain ⟨m0, m1, m2⟩ := cells_new3 w k0 v0 (.bool c0.gone) T
  have hb : Below w.heap.size w (w.alloc (.cells #[k0, v0, .bool c0.gone] T)) := (Below.refl _ _).alloc (Nat.le_refl _) _
  have hl := World.block_lt_of_cell? _ _ m0
  refine ⟨⟨_, 1, rfl, Nat.le_refl 1, fun e => (by cases e)⟩, fun i c hi => ?_⟩
  rcases i with _ | i
  · simp only [List.getElem?_cons_zero, Option.some.injEq] at hi
    subst hi
    exact ⟨_, 0, _, _, rfl, hK _ hB, hl, k0, v0, ⟨m0, m1, m2, ⟨(h0.below hb).key, fun hne k hk => hK k (h0.kb hne k hk)⟩, ⟨(h0.below hb).val, fun hne k hk => hK k (h0.vb hne k hk)⟩⟩⟩
  · simp at hi
theorem chs_gen {K : Set_} {w : World} {T : TypeId} {c0 : Ch} {k0 v0 : Value} (hk : BytesAt w k0 c0.key) (hv : BytesAt w v0 c0.val) (hkK : c0.key ≠ [] → ∀ k, k0.ownBlock = some k → K k) (hvK : c0.val ≠ [] → ∀ k, v0.ownBlock = some k → K k) (hw : K w.heap.size) : ChsAt K (w.alloc (.cells #[k0, v0, .bool c0.gone] T)) (.slice (some ⟨w.heap.size, 0, none⟩) 1 1) [c0] := by
  obtain ⟨m0, m1, m2⟩ := cells_new3 w k0 v0 (.bool c0.gone) T
  have hb : Below w.heap.size w (w.alloc (.cells #[k0, v0, .bool c0.gone] T)) := (Below.refl _ _).alloc (Nat.le_refl _) _
  have hl := World.block_lt_of_cell? _ _ m0
  refine ⟨⟨_, 1, rfl, Nat.le_refl 1, fun e => (by cases e)⟩, fun i c hi => ?_⟩
  rcases i with _ | i
  · simp only [List.getElem?_cons_zero, Option.some.injEq] at hi
    subst hi
    exact ⟨_, 0, _, _, rfl, hw, hl, k0, v0, ⟨m0, m1, m2, ⟨hk.below hb, hkK⟩, ⟨hv.below hb, hvK⟩⟩⟩
  · simp at hi
def strR : ByteArray := ⟨#[114, 97, 119]⟩
def strN : ByteArray := ⟨#[110, 111, 116, 104, 105, 110, 103, 32, 116, 104, 97, 116, 32, 105, 115, 32, 116, 104, 101, 114, 101]⟩
def rawK : Bs := [97, 47, 114, 97, 119]
/-- The raw key as a constant text's bytes. -/
theorem const_raw (w : World) : ∃ w1 w2, w.alloc (.cells #[.int .u8 97, .int .u8 47, .int .u8 114, .int .u8 97, .int .u8 119] 5) = w1 ∧ (convert 23 23 (.slice (some ⟨w.heap.size, 0, none⟩) 5 5)).run Tryz.prog w1 = .ok (.slice (some ⟨w.heap.size, 0, none⟩) 5 5) w2 ∧ BytesAt w2 (.slice (some ⟨w.heap.size, 0, none⟩) 5 5) rawK ∧ Below w.heap.size w w2 := by
  refine ⟨_, _, rfl, Lib.run_convert_bytes_const w 23 5 #[.int .u8 97, .int .u8 47, .int .u8 114, .int .u8 97, .int .u8 119] 5 5 Tryz.underlying23 Tryz.underlying5, ?_, (Below.refl _ _).alloc (Nat.le_refl _) _⟩
  refine ⟨_, _, rfl, by simp [rawK], fun e => (by cases e), fun _ => ⟨w.heap.size, 0, rfl, fun j v hv => ?_⟩⟩
  rw [Nat.zero_add, World.cell?_alloc_mark]
  match j, hv with
  | 0, hv => simp [rawK, bv] at hv; rw [← hv]; rfl
  | 1, hv => simp [rawK, bv] at hv; rw [← hv]; rfl
  | 2, hv => simp [rawK, bv] at hv; rw [← hv]; rfl
  | 3, hv => simp [rawK, bv] at hv; rw [← hv]; rfl
  | 4, hv => simp [rawK, bv] at hv; rw [← hv]; rfl
  | j + 5, hv => simp [rawK] at hv
/-- Behind the raw value: what is told of it, and of a name that isn't there. -/
theorem Tabs.raw {P W : List (Bs × Bs)} (h : Tabs P W) (raw : Bs) : getP (withP P [⟨rawK, raw, false⟩]) (preA ++ [114, 97, 119]) = some raw ∧ getP (withP P [⟨rawK, raw, false⟩]) (preA ++ strN.data.toList) = none := by
  refine ⟨?_, ?_⟩
  · rw [with_get _ _ _ h.sp]
    rfl
  · rw [with_get _ _ _ h.sp]
    simp only [lastP, List.foldl_cons, List.foldl_nil]
    rw [if_neg (by decide), h.a]
    exact get_none fun x hx e => by
      have h1 := h.few x hx
      rw [e] at h1
      exact absurd h1 (by decide)
theorem chs_pair {B : Nat} {w : World} {T : TypeId} {c0 c1 : Ch} {k0 v0 k1 v1 : Value} (h0 : ChV B w c0 k0 v0) (h1 : ChV B w c1 k1 v1) (hB : B ≤ w.heap.size) : ChsAt (fun k => B ≤ k) (w.alloc (.cells #[k0, v0, .bool c0.gone, k1, v1, .bool c1.gone] T)) (.slice (some ⟨w.heap.size, 0, none⟩) 2 2) [c0, c1] := by
  have hv := vals_new w [k0, v0, .bool c0.gone, k1, v1, .bool c1.gone] T
  have hb : Below w.heap.size w (w.alloc (.cells #[k0, v0, .bool c0.gone, k1, v1, .bool c1.gone] T)) := (Below.refl _ _).alloc (Nat.le_refl _) _
  have hl : w.heap.size < (w.alloc (.cells #[k0, v0, .bool c0.gone, k1, v1, .bool c1.gone] T)).heap.size := by simp
  obtain ⟨W, hW⟩ : ∃ y, w.alloc (.cells #[k0, v0, .bool c0.gone, k1, v1, .bool c1.gone] T) = y := ⟨_, rfl⟩
  rw [hW] at hb hl ⊢
  have hv : ValsAt W (.slice (some ⟨w.heap.size, 0, none⟩) 6 6) [k0, v0, .bool c0.gone, k1, v1, .bool c1.gone] := hW ▸ hv
  have m := fun (i : Nat) (v : Value) (h : ([k0, v0, .bool c0.gone, k1, v1, .bool c1.gone] : List Value)[i]? = some v) => vals_cell hv (by simp) h
  refine ⟨⟨_, 2, rfl, Nat.le_refl 2, fun e => (by cases e)⟩, fun i c hi => ?_⟩
  match i, hi with
  | 0, hi =>
    simp only [List.getElem?_cons_zero, Option.some.injEq] at hi
    subst hi
    exact ⟨_, 0, _, _, rfl, hB, hl, k0, v0, ⟨m 0 _ rfl, m 1 _ rfl, m 2 _ rfl, ⟨(h0.below hb).key, h0.kb⟩, ⟨(h0.below hb).val, h0.vb⟩⟩⟩
  | 1, hi =>
    simp only [List.getElem?_cons_succ, List.getElem?_cons_zero, Option.some.injEq] at hi
    subst hi
    exact ⟨_, 0, _, _, rfl, hB, hl, k1, v1, ⟨m 3 _ rfl, m 4 _ rfl, m 5 _ rfl, ⟨(h1.below hb).key, h1.kb⟩, ⟨(h1.below hb).val, h1.vb⟩⟩⟩
  | i + 2, hi => simp at hi
theorem wr1_short (c : Ch) : (wr1 c).length ≤ 6 + c.key.length + c.val.length := by
  unfold wr1
  split <;> simp [big_len] <;> omega
theorem wrL_one (c : Ch) : (wrL [c]).length ≤ 6 + c.key.length + c.val.length := by
  have h := wr1_short c
  have e : wrL [c] = wr1 c := by unfold wrL; simp
  rw [e]
  exact h
theorem wrL_two (c d : Ch) : (wrL [c, d]).length ≤ 12 + c.key.length + c.val.length + d.key.length + d.val.length := by
  have h := wr1_short c
  have h2 := wr1_short d
  have e : wrL [c, d] = wr1 c ++ wr1 d := by unfold wrL; simp
  rw [e, List.length_append]
  omega
theorem putB_len (n : Nat) : (putB n).length = 2 := rfl
end Go.Proofs.YtbjgknoipbekoaaGreat
