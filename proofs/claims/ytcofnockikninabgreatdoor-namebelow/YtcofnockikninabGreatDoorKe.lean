/-
  The walk of utf8.word.
-/
import Derived.Test.YtcofnockikninabGreatDoorKd
import Derived.Shelf.Unicode.WordAny
namespace Go.Proofs.YtcofnockikninabGreatDoor
open Go.RowKit
namespace K
set_option maxRecDepth 100000 in
set_option maxHeartbeats 4000000 in
theorem word_c (w : World) (x : Value) (b : Bs) (hx : BytesAt w x b) (hl : 8 ≤ b.length) :
    Calls Tryz.prog 135 #[x] w fun e w' => e = .returned (.int .u64 (wordN b : Int)) ∧ ∃ q, w' = w.drewN q := by
  obtain ⟨sp, c, rfl, _, _, hc⟩ := bytes_open hx
  obtain ⟨ba, oa, rfl, _, hcell⟩ := hc (fun e => by rw [e] at hl; simp at hl)
  obtain ⟨N, hN⟩ : ∃ N, b.length = N := ⟨_, rfl⟩
  have m0 := hcell 0 (by omega)
  have m1 := hcell 1 (by omega)
  have m2 := hcell 2 (by omega)
  have m3 := hcell 3 (by omega)
  have m4 := hcell 4 (by omega)
  have m5 := hcell 5 (by omega)
  have m6 := hcell 6 (by omega)
  have m7 := hcell 7 (by omega)
  rw [Nat.add_zero] at m0
  have h0 := (b.getD 0 0).toNat_lt
  have h1 := (b.getD 1 0).toNat_lt
  have h2 := (b.getD 2 0).toNat_lt
  have h3 := (b.getD 3 0).toNat_lt
  have h4 := (b.getD 4 0).toNat_lt
  have h5 := (b.getD 5 0).toNat_lt
  have h6 := (b.getD 6 0).toNat_lt
  have h7 := (b.getD 7 0).toNat_lt
  have hv : ((wordN b : Nat) : Int) = ((b.getD 0 0).toNat : Int) + ((b.getD 1 0).toNat : Int) * 256 + ((b.getD 2 0).toNat : Int) * 65536 + ((b.getD 3 0).toNat : Int) * 16777216 + ((b.getD 4 0).toNat : Int) * 4294967296 + ((b.getD 5 0).toNat : Int) * 1099511627776 + ((b.getD 6 0).toNat : Int) * 281474976710656 + ((b.getD 7 0).toNat : Int) * 72057594037927936 := by
    unfold wordN
    rw [take8 hl]
    simp only [Lib.leNat]
    push_cast
    omega
  rw [hv]
  rw [hN] at hl ⊢
  clear hv hx hc hcell hN
  generalize (b.getD 0 0).toNat = x0 at *
  generalize (b.getD 1 0).toNat = x1 at *
  generalize (b.getD 2 0).toNat = x2 at *
  generalize (b.getD 3 0).toNat = x3 at *
  generalize (b.getD 4 0).toNat = x4 at *
  generalize (b.getD 5 0).toNat = x5 at *
  generalize (b.getD 6 0).toNat = x6 at *
  generalize (b.getD 7 0).toNat = x7 at *
  have q0 : (0 : Int) < (N : Int) := by omega
  have p0 : 0 < N := by omega
  have q1 : (1 : Int) < (N : Int) := by omega
  have q2 : (2 : Int) < (N : Int) := by omega
  have q3 : (3 : Int) < (N : Int) := by omega
  have q4 : (4 : Int) < (N : Int) := by omega
  have q5 : (5 : Int) < (N : Int) := by omega
  have q6 : (6 : Int) < (N : Int) := by omega
  have q7 : (7 : Int) < (N : Int) := by omega
  go_enter Tryz.func135, Tryz.ntmps135
  go_wp2
  go_region_held3 (fun w' => w'.cell? ⟨ba, oa, none⟩ = some (.int .u8 (x0 : Int)) ∧ w'.cell? ⟨ba, oa + 1, none⟩ = some (.int .u8 (x1 : Int)) ∧ w'.cell? ⟨ba, oa + 2, none⟩ = some (.int .u8 (x2 : Int)) ∧ w'.cell? ⟨ba, oa + 3, none⟩ = some (.int .u8 (x3 : Int)) ∧ w'.cell? ⟨ba, oa + 4, none⟩ = some (.int .u8 (x4 : Int)) ∧ w'.cell? ⟨ba, oa + 5, none⟩ = some (.int .u8 (x5 : Int)) ∧ w'.cell? ⟨ba, oa + 6, none⟩ = some (.int .u8 (x6 : Int)) ∧ w'.cell? ⟨ba, oa + 7, none⟩ = some (.int .u8 (x7 : Int))) (go_keep) (fail)
  go_wp2
  go_ret
  refine ⟨?_, 1, rfl⟩
  simp (disch := omega) only [u64_wrap_id, u64_or8, u64_or16, u64_or24, u64_or32, u64_or40, u64_or48, u64_or56]
  rfl
end K
end Go.Proofs.YtcofnockikninabGreatDoor
