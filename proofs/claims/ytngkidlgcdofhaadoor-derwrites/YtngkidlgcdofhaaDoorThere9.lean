/-
  The walk of the statement DerThere.
-/
import Derived.Test.YtngkidlgcdofhaaDoorAnc9
import Derived.Test.YtngkidlgcdofhaaDoorSpent9
import Derived.Test.YtngkidlgcdofhaaDoorPlain9
import Derived.Test.YtngkidlgcdofhaaDoorDsame9
namespace Go.Proofs.YtngkidlgcdofhaaDoor
open Go.RowKit
/-- A value in its block. -/
theorem ValAt.form {S : Nat → Prop} {w : World} {cs : List Value} {v : DV} (h : ValAt S w cs v) : ∃ s1 c1 s2 c2, cs = dcells v.cls v.tag v.made (.slice s1 v.bytes.length c1) (.slice s2 v.kids.length c2) := by
  obtain ⟨n, h⟩ := h
  exact h.form
set_option maxRecDepth 100000 in
set_option maxHeartbeats 4000000 in
theorem there_true {R : World → Prop} (C : Der R) (w0 : World) (hR : R w0) (S : Nat → Prop) (cs : List Value) (v : DV) (hv : ValAt S w0 cs v) :
    Calls Tryd.prog 6 #[.agg cs.toArray] w0 fun e w' => e = .returned (.bool true) ∧ Below w0.heap.size w0 w' := by
  obtain ⟨s1, c1, s2, c2, rfl⟩ := hv.form
  obtain ⟨n, hv⟩ := hv
  obtain ⟨kc, hkc⟩ : ∃ kc, v.cls = kc := ⟨_, rfl⟩
  obtain ⟨kt, hkt⟩ : ∃ kt, v.tag = kt := ⟨_, rfl⟩
  obtain ⟨km, hkm⟩ : ∃ km, v.made = km := ⟨_, rfl⟩
  obtain ⟨kl, hkl⟩ : ∃ kl, v.bytes.length = kl := ⟨_, rfl⟩
  obtain ⟨kk, hkk⟩ : ∃ kk, v.kids.length = kk := ⟨_, rfl⟩
  simp only [hkc, hkt, hkm, hkl, hkk] at hv ⊢
  clear hkc hkt hkm hkl hkk
  obtain ⟨w1, hw1⟩ : ∃ w1, w0.alloc (.cells #[.int .i64 kc, .int .i64 kt, .bool km, .slice s1 kl c1, .slice s2 kk c2] 26) = w1 := ⟨_, rfl⟩
  have hb1 : Below w0.heap.size w0 w1 := by rw [← hw1]; exact (Below.refl _ _).alloc (Nat.le_refl _) _
  have HA : Hid (CellsAt w1 w0.heap.size 0 (dcells kc kt km (.slice s1 kl c1) (.slice s2 kk c2))) := by rw [← hw1]; exact cells_new w0 _ 26
  have HC := hide C
  have HR : Hid (∀ w, Below w0.heap.size w0 w → R w) := fun w hb => C.below _ _ hR hb
  have HV : Hid (∀ w, Below w0.heap.size w0 w → VAt n S w (dcells kc kt km (.slice s1 kl c1) (.slice s2 kk c2)) v) := fun w hb => hv.below hb
  have Hb1 := hide hb1
  have Hanc := hide (anchor_any C w1 (unhide HR w1 hb1))
  obtain ⟨A, hA⟩ : ∃ A, w0.heap.size = A := ⟨_, rfl⟩
  rw [hA] at HA
  have HK : Hid (∀ w, Below w1.heap.size w1 w → w.cell? ⟨A, 0, none⟩ = some (.int .i64 kc) ∧ w.cell? ⟨A, 1, none⟩ = some (.int .i64 kt) ∧ w.cell? ⟨A, 2, none⟩ = some (.bool km) ∧ w.cell? ⟨A, 3, none⟩ = some (.slice s1 kl c1) ∧ w.cell? ⟨A, 4, none⟩ = some (.slice s2 kk c2)) := fun w hb => ((unhide HA).below hb).five0
  clear C hR hv hb1 HA
  unfold dcells
  go_enter Tryd.func6, Tryd.ntmps6
  go_wp2_with fail
  refine (unhide Hanc).mono ?_
  rintro e w2 ⟨rfl, hb2⟩
  have Hb12 := hide hb2
  have Hb2 := hide ((unhide Hb1).trans (hb2.mono (unhide Hb1).size))
  obtain ⟨a0, a1, a2, a3, a4⟩ := unhide HK w2 hb2
  have Hsp := hide (spent_any S n v w2 _ 30 5000 (unhide HV w2 (unhide Hb2)) (by omega) (by omega))
  unfold dcells at Hsp
  clear hb2 Hanc hw1 hA
  go_wp2_with fail
  refine (unhide Hsp).mono ?_
  rintro e w3 ⟨r, rfl, hr1, hr2, hr3, hb3⟩
  have Hb13 := hide ((unhide Hb12).trans (hb3.mono (unhide Hb12).size))
  have Hb3 := hide ((unhide Hb2).trans (hb3.mono (unhide Hb2).size))
  clear hb3 Hsp a0 a1 a2 a3 a4
  by_cases hr0 : r < 0
  · obtain rfl : r = -1 := by omega
    go_wp2
    go_ret
    exact ⟨rfl, unhide Hb3⟩
  obtain ⟨r, rfl⟩ : ∃ k : Nat, r = (k : Int) := ⟨r.toNat, by omega⟩
  have f1 : decide ((r : Int) < 0) = false := by simp
  have hwt : weight v ≤ 5000 := by have := hr3 (by omega); omega
  have Hwt := hide hwt
  have Hwr := hide ((unhide HC).write w3 S (dcells kc kt km (.slice s1 kl c1) (.slice s2 kk c2)) v (unhide HR w3 (unhide Hb3)) ⟨n, unhide HV w3 (unhide Hb3)⟩ (by omega))
  obtain ⟨a0, a1, a2, a3, a4⟩ := unhide HK w3 (unhide Hb13)
  unfold dcells at Hwr
  clear hr1 hr2 hr3 hr0 hwt
  go_wp2_with fail
  refine (unhide Hwr).mono ?_
  rintro e w4 ⟨x, rfl, hO, hb4⟩
  have Hb14 := hide ((unhide Hb13).trans (hb4.mono (unhide Hb13).size))
  have Hb4 := hide ((unhide Hb3).trans (hb4.mono (unhide Hb3).size))
  obtain ⟨px, qx, rfl⟩ := hO.form
  have HO := hide hO
  clear hO hb4 Hwr a0 a1 a2 a3 a4
  cases hW : writeTop formD v with
  | no en =>
    have hpos := top_pos formD v en hW
    rw [hW] at HO
    simp only [errOf, bytesOf, List.length_nil]
    have e1 : ((en : Int) == 0) = false := by simp; omega
    clear hW HO
    go_wp2
    go_ret
    exact ⟨rfl, unhide Hb4⟩
  | yes b =>
    have hrd := read_written hW
    rw [hW] at HO
    have hlen : b.length ≤ 65536 := by
      unfold writeTop at hW
      split at hW
      · cases hW
      · split at hW
        · cases hW
        · cases hW; omega
    have Hrd := hide ((unhide HC).read w4 _ b (unhide HR w4 (unhide Hb4)) (unhide HO).bytes (by omega))
    rw [hrd] at Hrd
    simp only [errOf, bytesOf, valOf] at Hrd ⊢
    clear hW HO hrd
    obtain ⟨NB, hNB⟩ : ∃ NB, b.length = NB := ⟨_, rfl⟩
    rw [hNB] at Hrd ⊢
    clear hNB hlen
    go_wp2_with fail
    refine (unhide Hrd).mono ?_
    rintro e w5 ⟨cs5, rfl, ⟨n5, hv5⟩, hb5⟩
    have Hv5 := hide hv5
    obtain ⟨r1, t1, r2, t2, rfl⟩ := hv5.form
    have Hb15 := hide ((unhide Hb14).trans (hb5.mono (unhide Hb14).size))
    have Hb5 := hide ((unhide Hb4).trans (hb5.mono (unhide Hb4).size))
    obtain ⟨vc, hvc⟩ : ∃ vc, v.cls = vc := ⟨_, rfl⟩
    obtain ⟨vt, hvt⟩ : ∃ vt, v.tag = vt := ⟨_, rfl⟩
    obtain ⟨vm, hvm⟩ : ∃ vm, v.made = vm := ⟨_, rfl⟩
    obtain ⟨vl, hvl⟩ : ∃ vl, v.bytes.length = vl := ⟨_, rfl⟩
    obtain ⟨vk, hvk⟩ : ∃ vk, v.kids.length = vk := ⟨_, rfl⟩
    simp only [hvc, hvt, hvm, hvl, hvk] at Hv5 ⊢
    clear hvc hvt hvm hvl hvk hb5 hv5 Hrd
    unfold dcells
    obtain ⟨w6, hw6⟩ : ∃ w6, w5.alloc (.cells #[.int .i64 vc, .int .i64 vt, .bool vm, .slice r1 vl t1, .slice r2 vk t2] 26) = w6 := ⟨_, rfl⟩
    have hb6 : Below w5.heap.size w5 w6 := by rw [← hw6]; exact (Below.refl _ _).alloc (Nat.le_refl _) _
    have HD : Hid (CellsAt w6 w5.heap.size 0 (dcells vc vt vm (.slice r1 vl t1) (.slice r2 vk t2))) := by rw [← hw6]; exact cells_new w5 _ 26
    obtain ⟨B, hB⟩ : ∃ B, w5.heap.size = B := ⟨_, rfl⟩
    rw [hB] at HD
    have HL : Hid (∀ w, Below w6.heap.size w6 w → w.cell? ⟨B, 0, none⟩ = some (.int .i64 vc) ∧ w.cell? ⟨B, 1, none⟩ = some (.int .i64 vt) ∧ w.cell? ⟨B, 2, none⟩ = some (.bool vm) ∧ w.cell? ⟨B, 3, none⟩ = some (.slice r1 vl t1) ∧ w.cell? ⟨B, 4, none⟩ = some (.slice r2 vk t2)) := fun w hb => ((unhide HD).below hb).five0
    have Hb16 := hide ((unhide Hb15).trans (hb6.mono (unhide Hb15).size))
    have Hb6 := hide ((unhide Hb5).trans (hb6.mono (unhide Hb5).size))
    have Hv6 := hide ((unhide Hv5).below hb6)
    have HK6 : Hid (∀ w, Below w6.heap.size w6 w → w.cell? ⟨A, 0, none⟩ = some (.int .i64 kc) ∧ w.cell? ⟨A, 1, none⟩ = some (.int .i64 kt) ∧ w.cell? ⟨A, 2, none⟩ = some (.bool km) ∧ w.cell? ⟨A, 3, none⟩ = some (.slice s1 kl c1) ∧ w.cell? ⟨A, 4, none⟩ = some (.slice s2 kk c2)) := fun w hb => unhide HK w ((unhide Hb16).trans (hb.mono (unhide Hb16).size))
    obtain ⟨a0, a1, a2, a3, a4⟩ := unhide HK6 w6 (Below.refl _ _)
    obtain ⟨b0, b1, b2, b3, b4⟩ := unhide HL w6 (Below.refl _ _)
    clear hb6 HK Hv5 HD
    go_wp2
    clear hw6 hB
    go_region_held3 (fun w' => w'.cell? ⟨A, 0, none⟩ = some (.int .i64 kc) ∧ w'.cell? ⟨A, 1, none⟩ = some (.int .i64 kt) ∧ w'.cell? ⟨A, 2, none⟩ = some (.bool km) ∧ w'.cell? ⟨A, 3, none⟩ = some (.slice s1 kl c1) ∧ w'.cell? ⟨A, 4, none⟩ = some (.slice s2 kk c2) ∧ w'.cell? ⟨B, 0, none⟩ = some (.int .i64 vc) ∧ w'.cell? ⟨B, 1, none⟩ = some (.int .i64 vt) ∧ w'.cell? ⟨B, 2, none⟩ = some (.bool vm) ∧ w'.cell? ⟨B, 3, none⟩ = some (.slice r1 vl t1) ∧ w'.cell? ⟨B, 4, none⟩ = some (.slice r2 vk t2)) (go_keep)
      ((first
        | (go_at_call 14
           refine (plain_any n S v w6.drew (dcells kc kt km (.slice s1 kl c1) (.slice s2 kk c2)) (unhide HV w6.drew (unhide Hb6).drew) (by have := unhide Hwt; omega)).mono ?_
           rintro e w7 ⟨ds, rfl, hv7, hb7⟩
           obtain ⟨u1, u2, u3, u4, rfl⟩ := hv7.form
           have Hv7 := hide hv7
           have Hb67 : Hid (Below w6.heap.size w6 w7) := (Below.refl w6.heap.size w6).drew.trans hb7
           obtain ⟨a0, a1, a2, a3, a4⟩ := unhide HK6 w7 (unhide Hb67)
           obtain ⟨b0, b1, b2, b3, b4⟩ := unhide HL w7 (unhide Hb67)
           clear hv7 hb7
           unfold dcells)
        | (go_at_call 12
           refine (dsame_any _ _ n5 n v w7 (dcells vc vt vm (.slice r1 vl t1) (.slice r2 vk t2)) _ ((unhide Hv6).below (unhide Hb67)) (unhide Hv7) (by have := unhide Hwt; omega)).mono ?_
           rintro e w8 ⟨rfl, hb8⟩
           have Hb8 := hide ((unhide Hb67).trans (hb8.mono (unhide Hb67).size))
           obtain ⟨a0, a1, a2, a3, a4⟩ := unhide HK6 w8 (unhide Hb8)
           obtain ⟨b0, b1, b2, b3, b4⟩ := unhide HL w8 (unhide Hb8)
           clear hb8)))
    go_wp2
    go_ret
    exact ⟨rfl, (unhide Hb6).trans ((unhide Hb8).mono (unhide Hb6).size)⟩
end Go.Proofs.YtngkidlgcdofhaaDoor
