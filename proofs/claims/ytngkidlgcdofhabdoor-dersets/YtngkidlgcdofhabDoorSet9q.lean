/-
  Same, as a call that leaves the world as it was but for draws.
-/
import Derived.Test.YtngkidlgcdofhabDoorSame9
namespace Go.Proofs.YtngkidlgcdofhabDoor
open Go.RowKit
theorem qdrew {w wr : World} : (∃ q, wr = w.drewN q) → ∃ q, wr.drew = w.drewN q := fun ⟨q, h⟩ => ⟨q + 1, by rw [h]; rfl⟩
set_option maxRecDepth 100000 in
set_option maxHeartbeats 1000000 in
theorem same_quiet (w : World) (x y : Value) (a b : Bs) (hx : BytesAt w x a) (hy : BytesAt w y b) (hl : a.length ≤ 1099511627776) :
    Calls Tryd.prog 13 #[x, y] w fun e w' => e = .returned (.bool (decide (a = b))) ∧ ∃ q, w' = w.drewN q := by
  obtain ⟨sp, c, rfl, _, _, hc⟩ := bytes_open hx
  obtain ⟨sp2, c2, rfl, _, _, hc2⟩ := bytes_open hy
  have H1 := hide hc
  have H2 := hide hc2
  clear hc hc2 hx hy
  go_enter Tryd.func13, Tryd.ntmps13
  by_cases hab : a.length = b.length
  · obtain ⟨N, hN⟩ : ∃ N, a.length = N := ⟨_, rfl⟩
    have hN2 : b.length = N := by omega
    have hNb : N ≤ 1099511627776 := by rw [← hN]; exact hl
    rw [hN] at H1
    rw [hN2] at H2
    rw [hN, hN2]
    have HN := hide hN
    have HN2 := hide hN2
    clear hN hN2 hab
    go_wp2
    go_loopw [5] (fun i wr => ∃ k : Nat, k ≤ N ∧ i = .int .i64 k ∧ wr.heap = w.heap ∧ Hid (a.take k = b.take k) ∧ ∃ q, wr = w.drewN q) (fun i _ => N - (intOf i).toNat)
    case atStart => exact ⟨0, by omega, rfl, rfl, rfl, ⟨0, rfl⟩⟩
    case round =>
      obtain ⟨k, hk, rfl, hh, HE, hB⟩ := hrel
      by_cases hlt : k < N
      · have hna : a ≠ [] := by intro e; have := unhide HN; rw [e] at this; simp at this; omega
        have hnb : b ≠ [] := by intro e; have := unhide HN2; rw [e] at this; simp at this; omega
        obtain ⟨ba, oa, rfl, _, hcell⟩ := unhide H1 hna
        obtain ⟨bb, ob, rfl, _, hcell2⟩ := unhide H2 hnb
        have c1 : wr.cell? ⟨ba, oa + k, none⟩ = some (.int .u8 ((a.getD k 0).toNat : Int)) := by rw [← hcell k hlt]; unfold World.cell?; rw [hh]
        have c2' : wr.cell? ⟨bb, ob + k, none⟩ = some (.int .u8 ((b.getD k 0).toNat : Int)) := by rw [← hcell2 k hlt]; unfold World.cell?; rw [hh]
        have Ht : Hid ((a.getD k 0).toNat = (b.getD k 0).toNat → a.take (k + 1) = b.take (k + 1)) := fun e => take_eq_succ (unhide HE) (by have := unhide HN; omega) (by have := unhide HN2; omega) e
        have Hf : Hid ((a.getD k 0).toNat ≠ (b.getD k 0).toNat → a ≠ b) := fun e e2 => e (by rw [e2])
        obtain ⟨p, hp⟩ : ∃ p, (a.getD k 0).toNat = p := ⟨_, rfl⟩
        obtain ⟨q, hq⟩ : ∃ q, (b.getD k 0).toNat = q := ⟨_, rfl⟩
        rw [hp] at c1 Ht Hf
        rw [hq] at c2' Ht Hf
        have HB := hide hB
        have Hh := hide hh
        clear hB hh hcell hcell2 hp hq hna hnb
        have k0 : (0 : Int) ≤ (k : Int) := by omega
        have k1 : (k : Int) < (N : Int) := by omega
        by_cases hpq : p = q
        · have Ht2 := hide (unhide Ht hpq)
          have de : ((p : Int) == (q : Int)) = true := by simp [hpq]
          subst hpq
          clear Ht Hf
          go_wp2
          go_region_held3 (fun w' => w'.cell? ⟨ba, oa + k, none⟩ = some (.int .u8 p) ∧ w'.cell? ⟨bb, ob + k, none⟩ = some (.int .u8 p)) (go_keep) (fail)
          go_wp2
          go_roundw
          case rel =>
            first
              | exact ⟨k + 1, by omega, by go_num, unhide Hh, Ht2, qdrew (unhide HB)⟩
              | ((repeat apply Exists.intro); exact ⟨⟨k + 1, by omega, by go_num, unhide Hh, Ht2, qdrew (unhide HB)⟩, rfl⟩)
          case measure => simp [intOf]; omega
        · have Hf2 := hide (unhide Hf hpq)
          have de : ((p : Int) == (q : Int)) = false := by simp; omega
          clear Ht Hf hpq
          go_wp2
          go_region_held3 (fun w' => w'.cell? ⟨ba, oa + k, none⟩ = some (.int .u8 p) ∧ w'.cell? ⟨bb, ob + k, none⟩ = some (.int .u8 q)) (go_keep) (fail)
          go_wp2
          go_ret
          exact ⟨by simp [unhide Hf2], qdrew (unhide HB)⟩
      · have Hf : Hid (a = b) := by
          show _ = _
          have h1 := unhide HE
          rwa [List.take_of_length_le (by have := unhide HN; omega), List.take_of_length_le (by have := unhide HN2; omega)] at h1
        go_wp2
        go_ret
        exact ⟨by simp [unhide Hf], hB⟩
  · have Hf : Hid (a ≠ b) := fun e => hab (by rw [e])
    have de : ((a.length : Int) == (b.length : Int)) = false := by simp; omega
    go_wp2
    go_ret
    exact ⟨by simp [unhide Hf], ⟨0, rfl⟩⟩
end Go.Proofs.YtngkidlgcdofhabDoor
