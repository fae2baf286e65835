/-
  Parts of a row of values of bytes, as sources of an append.
-/
import Derived.Test.YtngkidlgcdofhabDoorSet9b
namespace Go.Proofs.YtngkidlgcdofhabDoor
open Go.RowKit
theorem under_dvs : Tryd.prog.underlying 24 = some (.slice (Tryd.prog.elem 24)) := by kernel_rfl
theorem elem_dvs : Tryd.prog.elem 24 = 26 := by kernel_rfl
theorem size_dv (w : World) : (Go.sizeOf 26).run Tryd.prog w = .ok 5 w := by
  obtain ⟨_, ⟨i, hi, _, hsz, _⟩, _⟩ := Edv
  simp [Go.sizeOf, typeInfo, hi, hsz]
/-- The front of a row of values. -/
theorem front5 (sp : Option Addr) (n c k : Nat) (hk : k ≤ c) (w : World) : (Instr.sliceAt 24 (.slice sp n c) none (some (.int .i64 (k : Int))) none).run Tryd.prog w = .ok (.slice sp k c) w := by
  rw [run_sliceAt_slice w 24 _ _ _ _ under_dvs, run_slice_h w 24 sp n c under_dvs .i64 (k : Int) (by omega) (by omega), elem_dvs, size_dv, Result.andThen_ok]
  simp only [sliced, Int.toNat_natCast, Nat.sub_zero, Nat.zero_mul]
  split
  · rfl
  · cases sp <;> simp [Addr.add]
def cut5 (sp : Option Addr) (c f : Nat) : Option Addr := if c = f then sp else sp.map (·.add (f * 5))
theorem rest5 (sp : Option Addr) (K c f : Nat) (hf : f ≤ K) (w : World) : (Instr.sliceAt 24 (.slice sp K c) (some (.int .i64 (f : Int))) none none).run Tryd.prog w = .ok (.slice (cut5 sp c f) (K - f) (c - f)) w := by
  rw [run_sliceAt_slice w 24 _ _ _ _ under_dvs, run_slice_l w 24 sp K c under_dvs .i64 (f : Int) (by omega) (by omega), elem_dvs, size_dv, Result.andThen_ok]
  simp only [sliced, Int.toNat_natCast]
  rfl
/-- What an append may take. -/
structure Takes (w : World) (x : Value) (m : Nat) (ds : List Value) : Prop where
  src : Src Tryd.prog 5 24 x m ds w
  lies : 0 < m → ∃ ga go c, x = .slice (some ⟨ga, go, none⟩) m c ∧ CellsAt w ga go ds
theorem leaf_one {ks : List (Value × Bs)} (hb : ∀ k ∈ ks, ∃ w, BytesAt w k.1 k.2) : ∀ u ∈ ks.flatMap (fun k => leafC k.1), u.oneCell' = true := fun u hu => by
  obtain ⟨k, hk, hu⟩ := List.mem_flatMap.1 hu
  obtain ⟨w, h⟩ := hb k hk
  obtain ⟨sp, c, hx, _⟩ := bytes_open h
  rw [hx] at hu
  simp only [leafC, dcells, List.mem_cons, List.not_mem_nil, or_false] at hu
  rcases hu with rfl | rfl | rfl | rfl | rfl <;> rfl
theorem takes_nil (w : World) (c : Nat) : Takes w (.slice none 0 c) 0 [] := ⟨Src.ofNil w Tryd.underlying24 c, fun h => absurd h (by omega)⟩
theorem takes_none (w : World) (a : Addr) (c : Nat) : Takes w (.slice (some a) 0 c) 0 [] := ⟨Src.ofSlice w Tryd.underlying24 a 0 c [] rfl (fun j u h => by simp at h) (fun u h => by simp at h), fun h => absurd h (by omega)⟩
theorem takes_some {w : World} {ga go m c : Nat} {ds : List Value} (hl : ds.length = m * 5) (hc : CellsAt w ga go ds) (h1 : ∀ u ∈ ds, u.oneCell' = true) : Takes w (.slice (some ⟨ga, go, none⟩) m c) m ds :=
  ⟨Src.ofSlice w Tryd.underlying24 ⟨ga, go, none⟩ m c ds hl (fun j u hu => by rw [Addr.add_mid]; exact hc j u hu) h1, fun _ => ⟨ga, go, c, rfl, hc⟩⟩
theorem KRow.all {w0 w : World} {g i ck : Nat} {ks : List (Value × Bs)} (h : KRow w0 w (.slice (some ⟨g, 0, none⟩) i ck) ks) : CellsAt w g 0 (ks.flatMap fun k => leafC k.1) := fun j u hu => by
  have := World.ownsRow.cells h.own (g := g) rfl j u hu
  rw [Addr.add_mid] at this
  exact this
theorem KRow.ones {w0 w : World} {v : Value} {ks : List (Value × Bs)} (h : KRow w0 w v ks) : ∀ u ∈ ks.flatMap (fun k => leafC k.1), u.oneCell' = true := leaf_one fun k hk => ⟨w0, h.bytes k hk⟩
theorem KRow.place {w0 w : World} {sk : Option Addr} {i ck : Nat} {ks : List (Value × Bs)} (h : KRow w0 w (.slice sk i ck) ks) (hi : 0 < i) : ∃ g, sk = some ⟨g, 0, none⟩ := by
  rcases h.own.2 with ⟨hv, _⟩ | ⟨g, cap, cur, hv, _⟩
  · simp only [Value.slice.injEq] at hv; omega
  · simp only [Value.slice.injEq] at hv; exact ⟨g, hv.1⟩
/-- The front. -/
theorem KRow.front {w0 w : World} {sk : Option Addr} {i ck : Nat} {ks : List (Value × Bs)} (h : KRow w0 w (.slice sk i ck) ks) (hl : ks.length = i) (j : Nat) (hj : j ≤ i) : Takes w (.slice sk j ck) j ((ks.take j).flatMap fun k => leafC k.1) := by
  rcases Nat.eq_zero_or_pos j with h0 | hp
  · subst h0
    cases sk with
    | none => exact takes_nil w ck
    | some a => exact takes_none w a ck
  · obtain ⟨g, rfl⟩ := h.place (by omega)
    refine takes_some (by rw [flat5_len _ (fun _ => rfl), List.length_take]; omega) (fun q u hu => ?_) (fun u hu => h.ones u ?_)
    · rw [← flat5_take _ (fun _ => rfl)] at hu
      refine h.all q u ?_
      rw [List.getElem?_take] at hu
      split at hu
      · exact hu
      · cases hu
    · rw [← flat5_take _ (fun _ => rfl)] at hu
      exact List.mem_of_mem_take hu
/-- The rest. -/
theorem KRow.rest {w0 w : World} {sk : Option Addr} {i ck : Nat} {ks : List (Value × Bs)} (h : KRow w0 w (.slice sk i ck) ks) (hl : ks.length = i) (hc : i ≤ ck) (j : Nat) (hj : j ≤ i) : Takes w (.slice (cut5 sk ck j) (i - j) (ck - j)) (i - j) ((ks.drop j).flatMap fun k => leafC k.1) := by
  rcases Nat.eq_zero_or_pos (i - j) with h0 | hp
  · have e : ks.drop j = [] := List.drop_eq_nil_of_le (by omega)
    rw [e, h0]
    cases hcut : cut5 sk ck j with
    | none => exact takes_nil w _
    | some a => exact takes_none w a _
  · obtain ⟨g, rfl⟩ := h.place (by omega)
    have e : cut5 (some ⟨g, 0, none⟩) ck j = some ⟨g, j * 5, none⟩ := by
      unfold cut5
      rw [if_neg (by omega)]
      simp [Addr.add_mid]
    rw [e]
    refine takes_some (by rw [flat5_len _ (fun _ => rfl), List.length_drop, hl]) (fun q u hu => ?_) (fun u hu => h.ones u ?_)
    · rw [← flat5_drop _ (fun _ => rfl), List.getElem?_drop] at hu
      have := h.all (j * 5 + q) u hu
      rwa [Nat.zero_add] at this
    · rw [← flat5_drop _ (fun _ => rfl)] at hu
      exact List.mem_of_mem_drop hu
end Go.Proofs.YtngkidlgcdofhabDoor
