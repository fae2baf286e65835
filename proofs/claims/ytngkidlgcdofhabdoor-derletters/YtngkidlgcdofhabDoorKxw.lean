/-
  The walk of the landed Write.
-/
import Derived.Test.YtngkidlgcdofhabDoorKx
namespace Go.Proofs.YtngkidlgcdofhabDoor
open Go.RowKit
namespace K
set_option maxRecDepth 100000 in
set_option maxHeartbeats 16000000 in
theorem write_c (w : World) (S : Nat → Prop) (cs : List Value) (v : DV) (hT : Tabs w) (hv : ValAt S w cs v) (hw : weight v ≤ 1000000) :
    Calls Tryd.prog 9 #[.agg cs.toArray] w fun e w' => ∃ x, e = .returned (.tuple #[x, .int .i64 (errOf (writeTop formD v) : Int)]) ∧ OwnB w' w.heap.size x (bytesOf (writeTop formD v)) ∧ Below w.heap.size w w' := by
  obtain ⟨n, hv⟩ := hv
  have hv := hv.mono (S' := fun b => b < w.heap.size) (fun b _ hb => hb)
  obtain ⟨s1, c1, sk, ck, e⟩ := hv.form
  obtain ⟨c, hc⟩ : ∃ c, v.cls = c := ⟨_, rfl⟩
  obtain ⟨t, ht⟩ : ∃ t, v.tag = t := ⟨_, rfl⟩
  obtain ⟨m, hm⟩ : ∃ m, v.made = m := ⟨_, rfl⟩
  obtain ⟨L, hL⟩ : ∃ L, v.bytes.length = L := ⟨_, rfl⟩
  obtain ⟨K, hK⟩ : ∃ K, v.kids.length = K := ⟨_, rfl⟩
  rw [hc, ht, hm, hL, hK] at e
  subst e
  have HT0 : Hid (writeTop formD v = match writeP formD 17 v with | .no e => .no e | .yes b => if 65536 < b.length then .no 54 else .yes b) := by show _ = _; unfold writeTop; rfl
  obtain ⟨R, hR⟩ : ∃ R, writeTop formD v = R := ⟨_, rfl⟩
  rw [hR] at HT0
  rw [hR]
  have HV := hide hv
  have Hwt := hide hw
  have HTab := hide hT
  have hA := Blk.new (Below.refl w.heap.size w) #[.int .i64 c, .int .i64 t, .bool m, .slice s1 L c1, .slice sk K ck] 26
  obtain ⟨w1, hw1⟩ : ∃ w1, w.alloc (.cells #[.int .i64 c, .int .i64 t, .bool m, .slice s1 L c1, .slice sk K ck] 26) = w1 := ⟨_, rfl⟩
  obtain ⟨A, eA⟩ : ∃ A, w.heap.size = A := ⟨_, rfl⟩
  rw [hw1, eA] at hA
  have Hck := hide (check_all 17 n _ v w1 _ 0 (hv.below hA.b) hw (hT.below hA.b) rfl)
  unfold dcells at Hck ⊢
  have k0 := hA.cell 0 _ rfl
  have k1 := hA.cell 1 _ rfl
  have k2 := hA.cell 2 _ rfl
  have k3 := hA.cell 3 _ rfl
  have k4 := hA.cell 4 _ rfl
  have HA := hide hA
  obtain ⟨er, her⟩ : ∃ er, errOf (writeP formD 17 v) = er := ⟨_, rfl⟩
  rw [her] at Hck
  have Her := hide her
  clear hA hv hw hT hR her hc ht hm hL hK
  go_enter Tryd.func9, Tryd.ntmps9
  go_wp2_with fail
  refine (unhide Hck).mono ?_
  rintro e w2 ⟨rfl, hb2⟩
  have HA2 := hide ((unhide HA).call hb2)
  clear hb2 Hck k0 k1 k2 k3 k4 HA hw1
  cases hg : writeP formD 17 v with
  | no e' =>
    have h1 := unhide Her
    rw [hg] at h1
    have h2 : e' = er := h1
    have hne := write_pos formD 17 v e' hg
    have HE : Hid (errOf R = er ∧ bytesOf R = []) := by
      have h3 := unhide HT0
      rw [hg] at h3
      have h4 : R = .no e' := h3
      rw [h4]
      exact ⟨h2, rfl⟩
    have z0 : ((er : Int) == 0) = false := by simp; omega
    have z0' : ((er : Int) != 0) = true := by simp; omega
    clear HT0 hg h1 h2 hne Her
    go_wp2
    go_ret2
    exact ⟨.slice none 0 0, by rw [(unhide HE).1]; rfl, by rw [(unhide HE).2]; exact ownb_nil _ _, by first | exact (unhide HA2).b | (rw [← eA]; exact (unhide HA2).b)⟩
  | yes W =>
    have h1 := unhide Her
    rw [hg] at h1
    have h2 : 0 = er := h1
    have z0 : ((er : Int) == 0) = true := by simp; omega
    have z0' : ((er : Int) != 0) = false := by simp; omega
    have HR : Hid (R = if 65536 < W.length then .no 54 else .yes W) := by
      have h3 := unhide HT0
      rw [hg] at h3
      exact h3
    have hWl : W.length ≤ 9000000 := by have := out_le 17 v W (unhide Hwt) hg; have := unhide Hwt; omega
    have Hsz := hide (size_all n 17 _ v w2 _ W ((unhide HV).below (unhide HA2).b) (unhide Hwt) hg)
    unfold dcells at Hsz
    obtain ⟨N, hN⟩ : ∃ N, W.length = N := ⟨_, rfl⟩
    rw [hN] at Hsz HR hWl
    have HN := hide hN
    have HW := hide hg
    have k0 := (unhide HA2).cell 0 _ rfl
    have k1 := (unhide HA2).cell 1 _ rfl
    have k2 := (unhide HA2).cell 2 _ rfl
    have k3 := (unhide HA2).cell 3 _ rfl
    have k4 := (unhide HA2).cell 4 _ rfl
    clear HT0 hg h1 h2 Her hN
    go_wp2_with fail
    refine (unhide Hsz).mono ?_
    rintro e w3 ⟨rfl, hb3⟩
    have hA3 := (unhide HA2).call hb3
    have HA3 := hide hA3
    clear hb3 Hsz k0 k1 k2 k3 k4 HA2
    by_cases hbig : 65536 < N
    · have d1 : decide ((65536 : Int) < (N : Int)) = true := by simp; omega
      have d1n : decide (65536 < N) = true := by simp; omega
      have HE : Hid (errOf R = 54 ∧ bytesOf R = []) := by rw [unhide HR, if_pos hbig]; exact ⟨rfl, rfl⟩
      clear hA3
      go_wp2
      go_ret2
      exact ⟨.slice none 0 0, by rw [(unhide HE).1]; rfl, by rw [(unhide HE).2]; exact ownb_nil _ _, by first | exact (unhide HA3).b | (rw [← eA]; exact (unhide HA3).b)⟩
    have d1 : decide ((65536 : Int) < (N : Int)) = false := by simp; omega
    have d1n : decide (65536 < N) = false := by simp; omega
    have HE : Hid (errOf R = 0 ∧ bytesOf R = W) := by rw [unhide HR, if_neg hbig]; exact ⟨rfl, rfl⟩
    obtain ⟨w4, hmk, hown, hbel⟩ := made_room Eb w3.drew .i64 .i64 N (N : Int) rfl (by omega)
    have k0 := hA3.cell 0 _ rfl
    have k1 := hA3.cell 1 _ rfl
    have k2 := hA3.cell 2 _ rfl
    have k3 := hA3.cell 3 _ rfl
    have k4 := hA3.cell 4 _ rfl
    have hA4 := hA3.drew.call hbel
    have j0 := hA4.cell 0 _ rfl
    have j1 := hA4.cell 1 _ rfl
    have j2 := hA4.cell 2 _ rfl
    have j3 := hA4.cell 3 _ rfl
    have j4 := hA4.cell 4 _ rfl
    have Hput := hide (put_all n 17 w3.drew w4 v _ W (.slice (some ⟨w3.drew.heap.size, 0, none⟩) 0 N) [] (((unhide HV).mono (S' := fun b => b < w3.drew.heap.size) (fun b hb _ => Nat.lt_of_lt_of_le hb hA3.b.size)).below hA3.drew.b) (unhide Hwt) (unhide HW) ⟨hown, hbel⟩ (by rw [unhide HN]; simp; omega))
    unfold dcells at Hput
    have Hbb := hide hA3.drew.b
    have HA3d := hide hA3.drew
    clear hA3 hA4 hown hbel HR HA3
    go_wp2
    go_region_held3 (fun w' => w'.cell? ⟨A, 0, none⟩ = some (.int .i64 c) ∧ w'.cell? ⟨A, 1, none⟩ = some (.int .i64 t) ∧ w'.cell? ⟨A, 2, none⟩ = some (.bool m) ∧ w'.cell? ⟨A, 3, none⟩ = some (.slice s1 L c1) ∧ w'.cell? ⟨A, 4, none⟩ = some (.slice sk K ck)) (go_keep)
      ((first
          | (go_at_call 18
             refine (unhide Hput).mono ?_
             rintro e w5 ⟨v5, rfl, hR5, hG5⟩
             have HR5 := hide hR5
             have hA5 := (unhide HA3d).call hR5.b
             have i0 := hA5.cell 0 _ rfl; have i1 := hA5.cell 1 _ rfl; have i2 := hA5.cell 2 _ rfl; have i3 := hA5.cell 3 _ rfl; have i4 := hA5.cell 4 _ rfl
             clear hR5 hG5 hA5)))
    have HO : Hid (OwnB w5 w.heap.size v5 W) := by
      have h1 := (unhide HR5).own
      rw [List.nil_append] at h1
      exact h1.mono (unhide Hbb).size
    have HBf := hide ((unhide Hbb).trans ((unhide HR5).b.mono (unhide Hbb).size))
    clear i0 i1 i2 i3 i4 j0 j1 j2 j3 j4 k0 k1 k2 k3 k4 hmk
    go_wp2
    go_ret2
    exact ⟨v5, by rw [(unhide HE).1]; rfl, by rw [(unhide HE).2]; first | exact unhide HO | (rw [← eA]; exact unhide HO), by first | exact unhide HBf | (rw [← eA]; exact unhide HBf)⟩
end K
end Go.Proofs.YtngkidlgcdofhabDoor
