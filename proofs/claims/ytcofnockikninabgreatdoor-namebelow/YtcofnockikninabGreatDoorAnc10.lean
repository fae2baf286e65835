/-
  The walk of the anchor: three of the document's examples.
-/
import Derived.Test.YtcofnockikninabGreatDoorPC
import Derived.Test.YtcofnockikninabGreatDoorNj
import Derived.Lib.SlBytesConst
namespace Go.Proofs.YtcofnockikninabGreatDoor
open Go.RowKit
open Go.Lib (decDigits)
theorem ex_oid : oidT (.mk 0 6 false [42, 134, 72] []) = some [49, 46, 50, 46, 56, 52, 48] := by
  have h1 : rightV (.mk 0 6 false [42, 134, 72] []) = true := by decide +kernel
  have h2 : oidG [42, 134, 72] = some [42, 840] := by decide +kernel
  unfold oidT
  rw [if_pos ⟨rfl, rfl, h1⟩]
  simp only [DV.bytes]
  rw [h2]
  have d1 : decDigits 1 = [49] := Lib.decDigits_one (by omega)
  have d2 : decDigits 2 = [50] := Lib.decDigits_one (by omega)
  have d84 : decDigits 84 = [56, 52] := Lib.decDigits_two (by omega) (by omega)
  have d840 : decDigits 840 = [56, 52, 48] := by
    rw [Lib.decDigits, dif_neg (by omega)]
    show decDigits 84 ++ [UInt8.ofNat 48] = _
    rw [d84]
    rfl
  show some (decDigits 1 ++ 46 :: decDigits 2 ++ restT [840]) = _
  unfold restT
  simp [d1, d2, d840]
theorem ex_time : timeT (.mk 0 23 false [52, 57, 49, 50, 51, 49, 50, 51, 53, 57, 53, 57, 90] []) = (2524607999, 0) := by decide +kernel
theorem ex_mach : machW [97, 46, 66, 46, 101, 120, 97, 109, 112, 108, 101] [98, 46, 101, 120, 97, 109, 112, 108, 101] = true := by decide +kernel
def noDn : List (Bs × Bs) → Told DV := fun _ => .no 30
theorem ex_ref1 : refG noDn ⟨2, [97, 46, 66, 46, 101, 120, 97, 109, 112, 108, 101], []⟩ false = false := by decide +kernel
theorem ex_ref2 : refG noDn ⟨2, [98, 46, 101, 120, 97, 109, 112, 108, 101], []⟩ true = false := by decide +kernel
namespace N
open K
theorem leaf_new (w : World) (c t : Int) (l : Bs) (hl : l.length ≤ 9223372036854775807) : ValAt (fun k => w.heap.size ≤ k) (w.alloc (.cells (l.map bv).toArray 5)) [.int .i64 c, .int .i64 t, .bool false, .slice (some ⟨w.heap.size, 0, none⟩) l.length l.length, .slice none 0 0] (.mk c t false l []) := by
  refine ⟨1, _, none, 0, rfl, bytes_new w l, fun _ k hk => ?_, ?_, ?_, fun _ => rfl, fun h => absurd rfl h⟩
  · simp [Value.ownBlock] at hk; omega
  · exact ⟨by simpa [DV.bytes] using hl, by simp [DV.kids]⟩
  · simp [DV.kids]
theorem gen_lit (w : World) (k : Int) (s : ByteArray) : GenAt w (gcells k s (.slice none 0 0)) ⟨k, bs s, []⟩ := ⟨s, none, 0, rfl, rfl, dn_nil w⟩
theorem bytes_mark (w : World) (l : Bs) (fr : Nat × Nat) : BytesAt (w.alloc (.cells (l.map bv).toArray 5 fr)) (.slice (some ⟨w.heap.size, 0, none⟩) l.length l.length) l := by
  refine ⟨_, _, by rw [List.length_map], by rw [List.length_map]; exact Nat.le_refl _, fun e => (by cases e), fun _ => ⟨w.heap.size, 0, rfl, fun j v hv => ?_⟩⟩
  have h1 := World.cell?_alloc_mark w (l.map bv).toArray 5 fr j
  rw [Nat.zero_add, h1, List.getElem?_toArray]
  exact hv
theorem leaf_mark (w : World) (c t : Int) (l : Bs) (fr : Nat × Nat) (hl : l.length ≤ 9223372036854775807) : ValAt (fun k => w.heap.size ≤ k) (w.alloc (.cells (l.map bv).toArray 5 fr)) [.int .i64 c, .int .i64 t, .bool false, .slice (some ⟨w.heap.size, 0, none⟩) l.length l.length, .slice none 0 0] (.mk c t false l []) := by
  refine ⟨1, _, none, 0, rfl, bytes_mark w l fr, fun _ k hk => ?_, ?_, ?_, fun _ => rfl, fun h => absurd rfl h⟩
  · simp [Value.ownBlock] at hk; omega
  · exact ⟨by simpa [DV.bytes] using hl, by simp [DV.kids]⟩
  · simp [DV.kids]
set_option maxRecDepth 100000 in
set_option maxHeartbeats 4000000 in
theorem anchor_c (w0 : World) (hR : Rdy w0) : Calls Tryz.prog 5 #[] w0 fun e w' => e = .returned (.bool true) ∧ Below w0.heap.size w0 w' := by
  obtain ⟨w1, hw1⟩ : ∃ w1, w0.alloc (.cells #[.int .u8 42, .int .u8 134, .int .u8 72] 5) = w1 := ⟨_, rfl⟩
  have hb1 : Below w0.heap.size w0 w1 := by rw [← hw1]; exact (Below.refl _ _).alloc (Nat.le_refl _) _
  have hx1 : ValAt (fun k => w0.heap.size ≤ k) w1 [.int .i64 0, .int .i64 6, .bool false, .slice (some ⟨w0.heap.size, 0, none⟩) 3 3, .slice none 0 0] (.mk 0 6 false [42, 134, 72] []) := by rw [← hw1]; exact leaf_new w0 0 6 [42, 134, 72] (by decide)
  have Hc1 := hide (oid_c w1 _ _ _ (hR.below hb1) hx1 (by decide))
  rw [ex_oid] at Hc1
  simp only [Option.getD_some, Option.isSome_some] at Hc1
  have HR := hide hR
  have Hb1 := hide hb1
  clear hR hx1 hb1
  go_enter Tryz.func5, Tryz.ntmps5
  go_wp2_with fail
  refine (unhide Hc1).mono ?_
  rintro e w2 ⟨rfl, hb⟩
  have Hb2 := hide ((unhide Hb1).trans (hb.mono (unhide Hb1).size))
  clear hb hw1 Hc1 Hb1
  obtain ⟨w3a, hw3a⟩ : ∃ w3a, w2.alloc (.cells #[.int .u8 52, .int .u8 57, .int .u8 49, .int .u8 50, .int .u8 51, .int .u8 49, .int .u8 50, .int .u8 51, .int .u8 53, .int .u8 57, .int .u8 53, .int .u8 57, .int .u8 90] 5) = w3a := ⟨_, rfl⟩
  obtain ⟨w3, hw3⟩ : ∃ w3, w2.alloc (.cells #[.int .u8 52, .int .u8 57, .int .u8 49, .int .u8 50, .int .u8 51, .int .u8 49, .int .u8 50, .int .u8 51, .int .u8 53, .int .u8 57, .int .u8 53, .int .u8 57, .int .u8 90] 5 (13, 14)) = w3 := ⟨_, rfl⟩
  have hcv : (convert 22 22 (.slice (some ⟨w2.heap.size, 0, none⟩) 13 13)).run Tryz.prog w3a = .ok (.slice (some ⟨w2.heap.size, 0, none⟩) 13 13) w3 := by
    rw [← hw3a, ← hw3]
    exact Lib.run_convert_bytes_const w2 22 5 #[.int .u8 52, .int .u8 57, .int .u8 49, .int .u8 50, .int .u8 51, .int .u8 49, .int .u8 50, .int .u8 51, .int .u8 53, .int .u8 57, .int .u8 53, .int .u8 57, .int .u8 90] 13 13 Tryz.underlying22 Tryz.underlying5
  have hb3 : Below w2.heap.size w2 w3 := by rw [← hw3]; exact (Below.refl _ _).alloc (Nat.le_refl _) _
  have hx3 : ValAt (fun k => w2.heap.size ≤ k) w3 [.int .i64 0, .int .i64 23, .bool false, .slice (some ⟨w2.heap.size, 0, none⟩) 13 13, .slice none 0 0] (.mk 0 23 false [52, 57, 49, 50, 51, 49, 50, 51, 53, 57, 53, 57, 90] []) := by rw [← hw3]; exact leaf_mark w2 0 23 [52, 57, 49, 50, 51, 49, 50, 51, 53, 57, 53, 57, 90] (13, 14) (by decide)
  have Hb3 := hide ((unhide Hb2).trans (hb3.mono (unhide Hb2).size))
  have Hc3 := hide (time_c w3 _ _ _ ((unhide HR).below (unhide Hb3)).tabs hx3 (by decide))
  rw [ex_time] at Hc3
  clear hx3 hb3 Hb2 hw3
  go_wp2_with fail
  refine (unhide Hc3).mono ?_
  rintro e w4 ⟨rfl, hb⟩
  have Hb4 := hide ((unhide Hb3).trans (hb.mono (unhide Hb3).size))
  clear hb hw3a hcv Hc3 Hb3
  have Hwi := hide (within_mach noDn w4 _ _ _ _ (gen_lit w4 2 ⟨#[97, 46, 66, 46, 101, 120, 97, 109, 112, 108, 101]⟩) (gen_lit w4 2 ⟨#[98, 46, 101, 120, 97, 109, 112, 108, 101]⟩) (by decide) (by decide) (by decide) (by decide) rfl rfl ex_ref1 ex_ref2 true (fun wr s s2 hb h1 h2 => by
    have h1' : bs s = [97, 46, 66, 46, 101, 120, 97, 109, 112, 108, 101] := h1
    have h2' : bs s2 = [98, 46, 101, 120, 97, 109, 112, 108, 101] := h2
    have h := machw_c wr ((unhide HR).below ((unhide Hb4).trans (hb.mono (unhide Hb4).size))) s s2 (by rw [← bs_len, h1']; decide) (by rw [← bs_len, h2']; decide) (by rw [h1']; decide) (by rw [h2']; decide)
    rw [h1', h2', ex_mach] at h
    exact h))
  unfold gcells at Hwi
  go_wp2_with fail
  refine (unhide Hwi).mono ?_
  rintro e w5 ⟨rfl, hb⟩
  have Hb5 := hide ((unhide Hb4).trans (hb.mono (unhide Hb4).size))
  clear hb Hwi Hb4
  go_wp2
  go_ret
  exact ⟨rfl, unhide Hb5⟩
end N
end Go.Proofs.YtcofnockikninabGreatDoor
