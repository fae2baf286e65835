/- Parts of the walk. -/
import Derived.Test.YtcofnockikninaaGreatDoorZaDb10
import Derived.Test.YtcofnockikninaaGreatDoorZaWi10
import Derived.Test.YtcofnockikninaaGreatDoorZaWp10
import Derived.Test.YtcofnockikninaaGreatDoorZaWg10
import Derived.Test.YtcofnockikninaaGreatDoorZaNn
import Derived.Lib.SlBytesConst
import Derived.Test.YtcofnockikninaaGreatDoorCards
import Derived.Test.YtcofnockikninaaGreatDoorTie
import Derived.ProofKit
import Derived.OpenShut
import Derived.ShutString
import Derived.ChangeOld
import Derived.Below
import Derived.Deep.DeepHandedRow
import Derived.Lib.LaidTab
import Derived.Lib.LaidU8T
import Derived.Lib.SmallJoins
import Derived.Stop.LaidErr
import Derived.Shelf.Vars
import Derived.Deep.SlicePairs
import Derived.SizedLaws
set_option maxRecDepth 100000
set_option maxHeartbeats 16000000
namespace Go.Proofs.YtcofnockikninaaGreatDoor
open Go.RowKit
theorem class_val {S : Nat → Prop} {w : World} {c t : Int} {xb xk : Value} {ks : List DV} (h : ValAt S w (dcells 0 t true xb xk) (.mk 0 t true [] ks)) : ValAt S w (dcells c t true xb xk) (.mk c t true [] ks) := by
 obtain ⟨n, h⟩ := h
 cases n with
 | zero => exact h.elim
 | succ n =>
  obtain ⟨xb', sk, ck, e, r⟩ := h
  refine ⟨n + 1, xb', sk, ck, ?_, r⟩
  simp only [dcells, List.cons.injEq, and_true, true_and, DV.cls, DV.tag, DV.made, DV.kids] at e ⊢
  exact e
theorem dnV_no {d : List (Bs × Bs)} {e : Nat} (h : dnV d = .no e) : e ≠ 0 := by
 unfold dnV at h
 split at h
 ·cases h; omega
 ·split at h
  ·cases h; omega
  ·split at h
   ·cases h; omega
   ·cases h
namespace N
open K
theorem genv4_c (w : World) (hRd : Rdy w) (cs : List Value) (g : Gen) (limit : Bool) (hg : GenAt w cs g) (ht : g.text.length ≤ 1000000000) (hdl : g.dir.length ≤ 1000000000) (hll : ∀ a ∈ g.dir, a.1.length ≤ 1000000 ∧ a.2.length ≤ 1000000) (h4 : g.kind = 4) :
  Calls Tryz.prog 31 #[.agg cs.toArray, .bool limit] w fun e w' => ∃ ds : List Value, e = .returned (.tuple #[.agg ds.toArray, .int .i64 (errOf (genV dnV g limit) : Int)]) ∧ ValAt (fun k => w.heap.size ≤ k) w' ds (valOf (genV dnV g limit)) ∧ Below w.heap.size w w' := by
 obtain ⟨s, sp, c, rfl, hst, hdn⟩ := hg.form
 obtain ⟨n, hn⟩ := exq g.dir.length
 have hs : s.size ≤ 1000000000 := by rw [← bs_len, hst]; exact ht
 have HNm : Hid (∀ wr : World, Calls Tryz.prog 64 #[.agg #[.int .i64 4, .string s, .slice sp n c], .bool limit] wr fun e w' => e = .returned (.bool (namedP g limit)) ∧ Below wr.heap.size wr w') := fun wr => by
  have := isnamed_c wr g s sp n c limit hs hst hn (by omega)
  rw [h4] at this
  exact this
 rw [h4, hn]
 rw [hn] at hdn
 obtain ⟨w1, X, hw1, eX, hA⟩ := blkN (Below.refl w.heap.size w) #[.int .i64 4, .string s, .slice sp n c] 56
 have hR0 := Blk.new hA.b #[.int .i64 0, .int .i64 0, .bool false, .slice none 0 0, .slice none 0 0] 25
 have hA1 := hA.lit (.cells #[.int .i64 0, .int .i64 0, .bool false, .slice none 0 0, .slice none 0 0] 25)
 obtain ⟨w2, hw2⟩ := exq (w1.alloc (.cells #[.int .i64 0, .int .i64 0, .bool false, .slice none 0 0, .slice none 0 0] 25))
 obtain ⟨R, eR⟩ := exq w1.heap.size
 rw [hw2, eR] at hR0
 rw [hw2] at hA1
 obtain ⟨k0, k1, k2⟩ := three_at hA1
 have HA := h_ hA1
 have HR := h_ hR0
 have Hk := h_ (iskind_c w2 4)
 rw [show kindP 4 = true from rfl] at Hk
 have H5 : Hid ((#[.int .i64 0, .int .i64 0, .bool false, .slice none 0 0, .slice none 0 0] : Array Value).all (·.oneCell') = true) := by show _ = true; simp [Value.oneCell']
 have HDn : Hid (∀ wr, Below w.heap.size w wr → Calls Tryz.prog 24 #[.slice sp n c] wr fun e w' => ∃ ds : List Value, e = .returned (.tuple #[.agg ds.toArray, .int .i64 (errOf (dnV g.dir) : Int)]) ∧ ValAt (fun k => wr.heap.size ≤ k) w' ds (valOf (dnV g.dir)) ∧ Below wr.heap.size wr w') := fun wr hb => dnv_c wr (hRd.below hb) sp n c g.dir (hdn.below hb) hll hn (by omega)
 obtain ⟨E, hE⟩ := exq (decide (bs s = []))
 have he : (s.toList == ([] : Bs)) = E := by rw [nil_str, hE]
 have hfm : formG g = E := by
  unfold formG
  rw [h4, ← hst, hE]
  cases E <;> rfl
 have HXR : Hid (X < R ∧ w.heap.size ≤ R) := ⟨by have := hA.lt; omega, by have := hA.b.size; omega⟩
 unfold gcells
 cases E with
 | false =>
  have HE : Hid (errOf (genV dnV g limit) = 30 ∧ valOf (genV dnV g limit) = .mk 0 0 false [] []) := by
   have e : genV dnV g limit = .no 30 := by unfold genV; rw [if_pos hfm]
   rw [e]
   exact ⟨rfl, rfl⟩
  clear hA hA1 hR0 hdn hst hfm h4 hn hE hRd hll
  go_enter Tryz.func31, Tryz.ntmps31
  go_wp2_with fail
  refine Hk.mono ?_
  rintro e w' ⟨rfl, hw⟩
  obtain rfl := hw
  go_upto_region 2 with fail
  go_wp2_with (refine wpList_store_row rfl 25 _ _ rfl R _ rfl rfl 25 _ HR.res value5 rfl (u_ H5) ?_)
  exact bodyPost_ret (res_row_tmp Tryz.results31 _ _ R 25 #[.int .i64 0, .int .i64 0, .bool false, .slice none 0 0, .slice none 0 0] (0, 0) _ rfl (HR.set #[.int .i64 0, .int .i64 0, .bool false, .slice none 0 0, .slice none 0 0]).res Tryz.underlying25 rfl value5 _ rfl) rfl ⟨_, by rw [HE.1]; rfl, by rw [HE.2]; exact zero_val _ _, (HR.set #[.int .i64 0, .int .i64 0, .bool false, .slice none 0 0, .slice none 0 0]).b⟩
 | true =>
  obtain ⟨U, hU⟩ := exq (namedP g limit)
  rw [hU] at HNm
  have HV : Hid (genV dnV g limit = if U = false then .no 31 else (match dnV g.dir with | .no _ => .no 31 | .yes d => .yes (.mk 2 4 true [] [d]))) := by
   show _ = _
   unfold genV
   rw [if_neg (by rw [hfm]; simp), hU, if_pos h4]
   rfl
  clear hA hA1 hR0 hdn hst hfm h4 hn hE hRd hll hU
  go_enter Tryz.func31, Tryz.ntmps31
  go_wp2_with (go_at_call 67; refine Hk.mono ?_; rintro e w' ⟨rfl, hw⟩; obtain rfl := hw)
  refine (u_ HNm _).mono ?_
  rintro e w3 ⟨rfl, hb3⟩
  have HA3 := h_ (HA.call hb3)
  have HR3 := h_ (HR.call hb3)
  clear hb3 k0 k1 k2 hw1 hw2 eR HA HR HNm Hk
  obtain ⟨k0, k1, k2⟩ := three_at (u_ HA3)
  cases U with
  | false =>
   have HE : Hid (errOf (genV dnV g limit) = 31 ∧ valOf (genV dnV g limit) = .mk 0 0 false [] []) := by rw [u_ HV]; exact ⟨rfl, rfl⟩
   go_wp2_with (refine wpList_store_row rfl 25 _ _ rfl R _ rfl rfl 25 _ HR3.res value5 rfl (u_ H5) ?_)
   exact bodyPost_ret (res_row_tmp Tryz.results31 _ _ R 25 #[.int .i64 0, .int .i64 0, .bool false, .slice none 0 0, .slice none 0 0] (0, 0) _ rfl (HR3.set #[.int .i64 0, .int .i64 0, .bool false, .slice none 0 0, .slice none 0 0]).res Tryz.underlying25 rfl value5 _ rfl) rfl ⟨_, by rw [HE.1]; rfl, by rw [HE.2]; exact zero_val _ _, (HR3.set #[.int .i64 0, .int .i64 0, .bool false, .slice none 0 0, .slice none 0 0]).b⟩
  | true =>
   have HV2 : Hid (genV dnV g limit = match dnV g.dir with | .no _ => .no 31 | .yes d => .yes (.mk 2 4 true [] [d])) := u_ HV
   have H7 := h_ (u_ HDn w3 HA3.b)
   clear HV HDn
   go_wp2_with fail
   refine H7.mono ?_
   rintro e w4 ⟨ds4, rfl, hv4, hb⟩
   have HA4 := h_ (HA3.call hb)
   have HR4 := h_ (HR3.call hb)
   have HB34 : Hid (R < w3.heap.size ∧ w3.heap.size ≤ w4.heap.size) := ⟨HR3.lt, hb.size⟩
   obtain ⟨n4, hv4⟩ := hv4
   obtain ⟨p1, q1, p2, q2, rfl⟩ := hv4.form
   have HV4 := h_ hv4
   obtain ⟨V, hV⟩ := exq (valOf (dnV g.dir))
   rw [hV] at HV4
   simp only [hV]
   obtain ⟨vc, vt, vm, vl, vk, hvc, hvt, hvm, hvl, hvk⟩ := ex5 V
   simp only [hvc, hvt, hvm, hvl, hvk] at HV4 ⊢
   have HVV := h_ hV
   clear hvc hvt hvm hvl hvk hV hv4 hb H7 HA3 HR3 k0 k1 k2
   unfold dcells at HV4 ⊢
   obtain ⟨w5, Y, hw5, eY, hY⟩ := blkN HA4.b #[.int .i64 vc, .int .i64 vt, .bool vm, .slice p1 vl q1, .slice p2 vk q2] 25
   have hb := allocB hw5
   obtain ⟨y0, y1, y2, y3, y4⟩ := five_at hY
   have HA5 := h_ (HA4.call hb)
   have HR5 := h_ (HR4.call hb)
   have HV5 := h_ (HV4.below hb)
   obtain ⟨k0, k1, k2⟩ := three_at (u_ HA5)
   obtain ⟨er, her⟩ := exq (errOf (dnV g.dir))
   rw [her]
   cases hD : dnV g.dir with
   | no e =>
    have HE : Hid (errOf (genV dnV g limit) = 31 ∧ valOf (genV dnV g limit) = .mk 0 0 false [] []) := by rw [u_ HV2, hD]; exact ⟨rfl, rfl⟩
    have hne : er ≠ 0 := by rw [← her, hD]; exact dnV_no hD
    have z1 : ((er : Int) != 0) = true := by simp; omega
    have z2 : ((er : Int) == 0) = false := by simp; omega
    clear hY hb HA4 HR4 HV4 her hne hD HV2
    go_upto_region 9 with fail
    go_wp2_with (refine wpList_store_row rfl 25 _ _ rfl R _ rfl rfl 25 _ HR5.res value5 rfl (u_ H5) ?_)
    exact bodyPost_ret (res_row_tmp Tryz.results31 _ _ R 25 #[.int .i64 0, .int .i64 0, .bool false, .slice none 0 0, .slice none 0 0] (0, 0) _ rfl (HR5.set #[.int .i64 0, .int .i64 0, .bool false, .slice none 0 0, .slice none 0 0]).res Tryz.underlying25 rfl value5 _ rfl) rfl ⟨_, by rw [HE.1]; rfl, by rw [HE.2]; exact zero_val _ _, (HR5.set #[.int .i64 0, .int .i64 0, .bool false, .slice none 0 0, .slice none 0 0]).b⟩
   | yes dd =>
    have hdd : V = dd := by rw [← u_ HVV, hD]; rfl
    subst hdd
    have HE : Hid (errOf (genV dnV g limit) = 0 ∧ valOf (genV dnV g limit) = .mk 2 4 true [] [V]) := by rw [u_ HV2, hD]; exact ⟨rfl, rfl⟩
    have he0 : er = 0 := by rw [← her, hD]; rfl
    subst he0
    obtain ⟨w6, LB, hw6, eL, hL⟩ := blkN HA5.b #[.int .i64 vc, .int .i64 vt, .bool vm, .slice p1 vl q1, .slice p2 vk q2] 25
    have hb6 := allocB hw6
    have HL6 := h_ hL
    have HA6 := h_ (HA5.call hb6)
    have HR6 := h_ (HR5.call hb6)
    have HV6 := h_ (HV5.below hb6)
    have HLR : Hid (R < LB ∧ w.heap.size ≤ LB) := by
     have h1 := u_ HB34
     have h2 := hb.size
     have h3 := HA5.b.size
     exact ⟨by omega, by omega⟩
    have H8 : Hid ((#[.int .i64 2, .int .i64 4, .bool true, .slice none 0 0, .slice (some ⟨LB, 0, none⟩) 1 1] : Array Value).all (·.oneCell') = true) := by show _ = true; simp [Value.oneCell']
    clear hY hb HA4 HR4 HV4 her hD HV2 hL hb6 HA5 HR5 HV5
    go_upto_region 10 with fail
    go_wp2_with (refine wpList_store_row rfl 25 _ _ rfl R _ rfl rfl 25 _ HR6.res value5 rfl (u_ H8) ?_)
    refine bodyPost_ret (res_row_tmp Tryz.results31 _ _ R 25 #[.int .i64 2, .int .i64 4, .bool true, .slice none 0 0, .slice (some ⟨LB, 0, none⟩) 1 1] (0, 0) _ rfl (HR6.set #[.int .i64 2, .int .i64 4, .bool true, .slice none 0 0, .slice (some ⟨LB, 0, none⟩) 1 1]).res Tryz.underlying25 rfl value5 _ rfl) rfl ⟨[.int .i64 2, .int .i64 4, .bool true, .slice none 0 0, .slice (some ⟨LB, 0, none⟩) 1 1], by rw [HE.1]; rfl, ?_, (HR6.set #[.int .i64 2, .int .i64 4, .bool true, .slice none 0 0, .slice (some ⟨LB, 0, none⟩) 1 1]).b⟩
    rw [HE.2]
    have hv1 : ValAt (fun b => R < b) w6 [.int .i64 vc, .int .i64 vt, .bool vm, .slice p1 vl q1, .slice p2 vk q2] V := ⟨n4, HV6.mono fun b hb _ => by have := HB34.1; omega⟩
    have r1 := drow_one (u_ HL6) hv1
    have h2 := class_val (c := 2) (made_val (t := 4) (c := 1) r1 rfl (Nat.le_refl _) (by omega) HLR.1)
    have h3 := h2.kept (grown_setRowN w6 R #[.int .i64 2, .int .i64 4, .bool true, .slice none 0 0, .slice (some ⟨LB, 0, none⟩) 1 1]) (fun g e hs => by simp only [Option.some.injEq] at e; omega)
    exact h3.mono fun b hb _ => by have := u_ HXR; omega
end N
namespace N
open K
theorem isref4_c (w : World) (hRd : Rdy w) (cs : List Value) (g : Gen) (limit : Bool) (hg : GenAt w cs g) (ht : g.text.length ≤ 1000000000) (hdl : g.dir.length ≤ 1000000000) (hll : ∀ a ∈ g.dir, a.1.length ≤ 1000000 ∧ a.2.length ≤ 1000000) (h4 : g.kind = 4) :
  Calls Tryz.prog 68 #[.agg cs.toArray, .bool limit] w fun e w' => e = .returned (.bool (refG dnV g limit)) ∧ Below w.heap.size w w' := by
 have HV : Hid (∀ wr, Below w.heap.size w wr → Calls Tryz.prog 31 #[.agg cs.toArray, .bool limit] wr fun e w' => ∃ ds : List Value, e = .returned (.tuple #[.agg ds.toArray, .int .i64 (errOf (genV dnV g limit) : Int)]) ∧ ValAt (fun k => wr.heap.size ≤ k) w' ds (valOf (genV dnV g limit)) ∧ Below wr.heap.size wr w') := fun wr hb => genv4_c wr (hRd.below hb) cs g limit (hg.below hb) ht hdl hll h4
 obtain ⟨s, sp, c, rfl, hst, hdn⟩ := hg.form
 obtain ⟨k, hk⟩ := exq g.kind
 obtain ⟨n, hn⟩ := exq g.dir.length
 rw [hk, hn] at HV ⊢
 obtain ⟨w1, X, hw1, eX, hA⟩ := blkN (Below.refl w.heap.size w) #[.int .i64 k, .string s, .slice sp n c] 56
 obtain ⟨k0, k1, k2⟩ := three_at hA
 have HA := h_ hA
 obtain ⟨er, her⟩ := exq (errOf (genV dnV g limit))
 rw [her] at HV
 obtain ⟨U, hU⟩ := exq (decide (er = 0))
 have z1 : ((er : Int) == 0) = U := by rw [← hU]; by_cases h : er = 0 <;> simp [h] <;> omega
 have z2 : ((er : Int) != 0) = !U := by rw [← z1]; rfl
 have HT : Hid (refG dnV g limit = !U) := by show _ = _; unfold refG; rw [her, hU]
 unfold gcells at HV ⊢
 clear hA hdn hst her hU hg hk hn h4 hRd hll
 go_enter Tryz.func68, Tryz.ntmps68
 go_wp2_with fail
 refine (u_ HV w1 HA.b).mono ?_
 rintro e w2 ⟨ds, rfl, hv, hb⟩
 have HA2 := h_ (HA.call hb)
 obtain ⟨n5, hv⟩ := hv
 obtain ⟨p1, q1, p2, q2, rfl⟩ := hv.form
 obtain ⟨vc, hvc⟩ := exq ((valOf (genV dnV g limit)).cls)
 obtain ⟨vt, hvt⟩ := exq ((valOf (genV dnV g limit)).tag)
 obtain ⟨vm, hvm⟩ := exq ((valOf (genV dnV g limit)).made)
 obtain ⟨vl, hvl⟩ := exq ((valOf (genV dnV g limit)).bytes.length)
 obtain ⟨vk, hvk⟩ := exq ((valOf (genV dnV g limit)).kids.length)
 simp only [hvc, hvt, hvm, hvl, hvk]
 unfold dcells
 have HB3 := h_ ((HA2.lit (.cells #[.int .i64 vc, .int .i64 vt, .bool vm, .slice p1 vl q1, .slice p2 vk q2] 25)).b)
 obtain ⟨w3, hw3⟩ := exq (w2.alloc (.cells #[.int .i64 vc, .int .i64 vt, .bool vm, .slice p1 vl q1, .slice p2 vk q2] 25))
 rw [hw3] at HB3
 clear hv hb hvc hvt hvm hvl hvk k0 k1 k2 HV
 cases U <;> simp only [Bool.not_true, Bool.not_false] at z2 HT <;>
  (go_wp2
   go_ret
   exact ⟨by rw [u_ HT]; rfl, u_ HB3⟩)
theorem within4_c (w : World) (hRd : Rdy w) (cs ds : List Value) (g l : Gen) (hg : GenAt w cs g) (hl : GenAt w ds l) (htg : g.text.length ≤ 1000000) (htl : l.text.length ≤ 1000000) (hdg : g.dir.length ≤ 1000000) (hdl : l.dir.length ≤ 1000000) (hlg : ∀ a ∈ g.dir, a.1.length ≤ 1000000 ∧ a.2.length ≤ 1000000) (hll : ∀ a ∈ l.dir, a.1.length ≤ 1000000 ∧ a.2.length ≤ 1000000) (h4 : g.kind = 4) (h5 : l.kind = 4) :
  Calls Tryz.prog 34 #[.agg cs.toArray, .agg ds.toArray] w fun e w' => e = .returned (.bool (!refG dnV g false && !refG dnV l true && dirP g.dir l.dir)) ∧ Below w.heap.size w w' := by
 have HG : Hid (∀ wr, Below w.heap.size w wr → GenAt wr cs g) := fun wr hb => hg.below hb
 have HL : Hid (∀ wr, Below w.heap.size w wr → GenAt wr ds l) := fun wr hb => hl.below hb
 obtain ⟨s, sp, c, rfl, hst, hdn⟩ := hg.form
 obtain ⟨s2, sp2, c2, rfl, hst2, hdn2⟩ := hl.form
 obtain ⟨n, hn⟩ := exq g.dir.length
 obtain ⟨n', hn'⟩ : ∃ n, l.dir.length = n := ⟨_, rfl⟩
 rw [h4, hn] at HG ⊢
 rw [h5, hn'] at HL ⊢
 rw [hn] at hdn
 rw [hn'] at hdn2
 obtain ⟨U1, hU1⟩ := exq (refG dnV g false)
 obtain ⟨U2, hU2⟩ := exq (refG dnV l true)
 obtain ⟨D, hD⟩ := exq (dirP g.dir l.dir)
 have HRf : Hid (∀ wr, Below w.heap.size w wr → Calls Tryz.prog 68 #[.agg #[.int .i64 4, .string s, .slice sp n c], .bool false] wr fun e w' => e = .returned (.bool U1) ∧ Below wr.heap.size wr w') := fun wr hb => by
  have := isref4_c wr (hRd.below hb) _ g false (u_ HG wr hb) (by omega) (by omega) hlg h4
  rw [hU1] at this
  exact this
 have HRl : Hid (∀ wr, Below w.heap.size w wr → Calls Tryz.prog 68 #[.agg #[.int .i64 4, .string s2, .slice sp2 n' c2], .bool true] wr fun e w' => e = .returned (.bool U2) ∧ Below wr.heap.size wr w') := fun wr hb => by
  have := isref4_c wr (hRd.below hb) _ l true (u_ HL wr hb) (by omega) (by omega) hll h5
  rw [hU2] at this
  exact this
 have HC : Hid (∀ wr, Below w.heap.size w wr → Calls Tryz.prog 71 #[.slice sp n c, .slice sp2 n' c2] wr fun e w' => e = .returned (.bool D) ∧ Below wr.heap.size wr w') := fun wr hb => by
  have := dirw_c wr sp sp2 n n' c c2 g.dir l.dir (hdn.below hb) (hdn2.below hb) hn hn' (by omega)
  rw [hD] at this
  exact this
 rw [hU1, hU2, hD]
 obtain ⟨w1, X, hw1, eX, hA⟩ := blkN (Below.refl w.heap.size w) #[.int .i64 4, .string s, .slice sp n c] 56
 have hY := Blk.new hA.b #[.int .i64 4, .string s2, .slice sp2 n' c2] 56
 have hA1 := hA.lit (.cells #[.int .i64 4, .string s2, .slice sp2 n' c2] 56)
 obtain ⟨w2, hw2⟩ := exq (w1.alloc (.cells #[.int .i64 4, .string s2, .slice sp2 n' c2] 56))
 obtain ⟨Y, eY⟩ := exq w1.heap.size
 rw [hw2, eY] at hY
 rw [hw2] at hA1
 obtain ⟨k0, k1, k2⟩ := three_at hA1
 obtain ⟨j0, j1, j2⟩ := three_at hY
 have HA := h_ hA1
 have HY := h_ hY
 unfold gcells
 clear hA hA1 hY hdn hdn2 hst hst2 hg hl hn hn' h4 h5 HG HL hU1 hU2 hD hRd hlg hll
 go_enter Tryz.func34, Tryz.ntmps34
 go_wp2_with fail
 refine (u_ HRf w2 HA.b).mono ?_
 rintro e w3 ⟨rfl, hb⟩
 have HA3 := h_ (HA.call hb)
 have HY3 := h_ (HY.call hb)
 clear hb k0 k1 k2 j0 j1 j2 HA HY hw1 hw2 eY
 obtain ⟨k0, k1, k2⟩ := three_at (u_ HA3)
 obtain ⟨j0, j1, j2⟩ := three_at (u_ HY3)
 cases U1 with
 | true =>
  go_wp2
  go_ret
  exact ⟨rfl, HA3.b⟩
 | false =>
  go_wp2_with fail
  refine (u_ HRl w3 HA3.b).mono ?_
  rintro e w4 ⟨rfl, hb⟩
  have HA4 := h_ (HA3.call hb)
  have HY4 := h_ (HY3.call hb)
  clear hb k0 k1 k2 j0 j1 j2 HA3 HY3
  obtain ⟨k0, k1, k2⟩ := three_at (u_ HA4)
  obtain ⟨j0, j1, j2⟩ := three_at (u_ HY4)
  cases U2 with
  | true =>
   go_wp2
   go_ret
   exact ⟨rfl, HA4.b⟩
  | false =>
   go_wp2_with fail
   refine (u_ HC w4 HA4.b).mono ?_
   rintro e w5 ⟨rfl, hb⟩
   have HA5 := h_ (HA4.call hb)
   clear hb
   go_wp2
   go_ret
   exact ⟨by cases D <;> rfl, HA5.b⟩
end N
namespace N
open K
theorem named_asc {g : Gen} {b : Bool} (h : namedP g b = true) (h4 : g.kind ≠ 4) (h7 : g.kind ≠ 7) : ascP g.text = true := by
 unfold namedP at h
 rw [if_neg h4, if_neg h7] at h
 simp only [Bool.and_eq_true] at h
 exact h.2
theorem addr_eq {a l : Gen} (h : namedP l true = true) (h7 : l.kind = 7) : addrW a.text l.text = addrR a.text l.text := by
 unfold namedP at h
 rw [if_neg (by omega), if_pos h7] at h
 have hl : l.text.length = 8 ∨ l.text.length = 32 := by
  unfold addrP at h
  simp at h
  omega
 unfold addrW addrR
 by_cases hh : a.text.length = l.text.length / 2
 ·rw [decide_eq_true hh, decide_eq_true (by omega), hh]
 ·rw [decide_eq_false hh, decide_eq_false (by omega), Bool.false_and, Bool.false_and]
theorem within_c (w : World) (hR : Rdy w) (cs ds : List Value) (g l : Gen) (hg : GenAt w cs g) (hl : GenAt w ds l) (htg : g.text.length ≤ 1000000) (htl : l.text.length ≤ 1000000) (hdg : g.dir.length ≤ 1000000) (hdl : l.dir.length ≤ 1000000) (hlg : ∀ a ∈ g.dir, a.1.length ≤ 1000000 ∧ a.2.length ≤ 1000000) (hll : ∀ a ∈ l.dir, a.1.length ≤ 1000000 ∧ a.2.length ≤ 1000000) :
  Calls Tryz.prog 34 #[.agg cs.toArray, .agg ds.toArray] w fun e w' => e = .returned (.bool (withinR g l)) ∧ Below w.heap.size w w' := by
 by_cases hkk : g.kind = l.kind
 case neg =>
  have e : withinR g l = false := by unfold withinR; rw [if_pos (Or.inr (Or.inr hkk))]
  rw [e]
  exact within_unlike w cs ds g l hg hl hkk
 by_cases h4 : g.kind = 4
 ·have e : withinR g l = (!refG dnV g false && !refG dnV l true && dirP g.dir l.dir) := by
   unfold withinR
   rw [h4, ← hkk, h4]
   cases refG dnV g false <;> cases refG dnV l true <;> simp
  rw [e]
  exact within4_c w hR cs ds g l hg hl htg htl hdg hdl hlg hll h4 (hkk ▸ h4)
 cases hr1 : refG dnV g false with
 | true =>
  have e : withinR g l = false := by unfold withinR; rw [if_pos (Or.inl hr1)]
  rw [e]
  exact within_ref1 dnV w cs ds g l hg hl htg hdg hkk h4 hr1
 | false =>
 cases hr2 : refG dnV l true with
 | true =>
  have e : withinR g l = false := by unfold withinR; rw [if_pos (Or.inr (Or.inl hr2))]
  rw [e]
  exact within_ref2 dnV w cs ds g l hg hl htg htl hdg hdl hkk h4 hr1 hr2
 | false =>
 have hn : ¬ (refG dnV g false = true ∨ refG dnV l true = true ∨ g.kind ≠ l.kind) := fun h => by
  rcases h with h | h | h
  ·rw [hr1] at h; cases h
  ·rw [hr2] at h; cases h
  ·exact h hkk
 have hW : withinR g l = if g.kind = 1 then mailR g.text l.text else if g.kind = 2 then machR g.text l.text else if g.kind = 6 then decide (0 ≤ Lib.index g.text [58, 47, 47]) && underP (uriH g.text) l.text else if g.kind = 7 then addrR g.text l.text else dirP g.dir l.dir := by
  unfold withinR
  rw [if_neg hn]
 have n1 := (genV_kind hr1).2
 have n2 := (genV_kind hr2).2
 have sz : ∀ (s : ByteArray) (x : Bs), bs s = x → x.length ≤ 1000000 → s.size ≤ 1000000 := fun s x h h2 => by rw [← bs_len, h]; exact h2
 rcases form_kinds (genV_kind hr1).1 with h | h | h | h | h
 ·rw [hW, if_pos h, ← mail_eq]
  exact within_mail dnV w cs ds g l hg hl htg htl hdg hdl hkk h hr1 hr2 _ fun wr s s2 hb h1 h2 => by
   have := mailw_c wr (hR.below hb) s s2 (sz s _ h1 htg) (sz s2 _ h2 htl) (by rw [h1]; exact named_asc n1 h4 (by omega)) (by rw [h2]; exact named_asc n2 (by omega) (by omega))
   rw [h1, h2] at this
   exact this
 ·rw [hW, if_neg (by omega), if_pos h, ← mach_eq]
  exact within_mach dnV w cs ds g l hg hl htg htl hdg hdl hkk h hr1 hr2 _ fun wr s s2 hb h1 h2 => by
   have := machw_c wr (hR.below hb) s s2 (sz s _ h1 htg) (sz s2 _ h2 htl) (by rw [h1]; exact named_asc n1 h4 (by omega)) (by rw [h2]; exact named_asc n2 (by omega) (by omega))
   rw [h1, h2] at this
   exact this
 ·exact absurd h h4
 ·rw [hW, if_neg (by omega), if_neg (by omega), if_pos h, ← uri_eq]
  exact within_uri dnV w cs ds g l hg hl htg htl hdg hdl hkk h hr1 hr2 _ fun wr s s2 hb h1 h2 => by
   have := uriw_c wr (hR.below hb) s s2 (sz s _ h1 htg) (sz s2 _ h2 htl) (by rw [h1]; exact named_asc n1 h4 (by omega)) (by rw [h2]; exact named_asc n2 (by omega) (by omega))
   rw [h1, h2] at this
   exact this
 ·rw [hW, if_neg (by omega), if_neg (by omega), if_neg (by omega), if_pos h, ← addr_eq n2 (by omega)]
  exact within_addr dnV w cs ds g l hg hl htg htl hdg hdl hkk h hr1 hr2 _ fun wr s s2 hb h1 h2 => by
   have := addrw_c wr s s2 (sz s _ h1 htg) (sz s2 _ h2 htl)
   rw [h1, h2] at this
   exact this
end N
open Go.Lib (decDigits)
theorem ex_oid : oidT (.mk 0 6 false [42, 134, 72] []) = some [49, 46, 50, 46, 56, 52, 48] := by
 have h1 : rightV (.mk 0 6 false [42, 134, 72] []) = true := by decide +kernel
 have h2 : oidG [42, 134, 72] = some [42, 840] := by decide +kernel
 unfold oidT
 rw [if_pos ⟨rfl, rfl, h1⟩]
 simp only [DV.bytes]
 rw [h2]
 have d1 : decDigits 1 = [49] := Lib.decDigits_one (by omega)
 have d2 : decDigits 2 = [50] := Lib.decDigits_one (by omega)
 have d84 : decDigits 84 = [56, 52] := Lib.decDigits_two (by omega) (by omega)
 have d840 : decDigits 840 = [56, 52, 48] := by
  rw [Lib.decDigits, dif_neg (by omega)]
  show decDigits 84 ++ [UInt8.ofNat 48] = _
  rw [d84]
  rfl
 show some (decDigits 1 ++ 46 :: decDigits 2 ++ restT [840]) = _
 unfold restT
 simp [d1, d2, d840]
theorem ex_time : timeT (.mk 0 23 false [52, 57, 49, 50, 51, 49, 50, 51, 53, 57, 53, 57, 90] []) = (2524607999, 0) := by decide +kernel
theorem ex_mach : machW [97, 46, 66, 46, 101, 120, 97, 109, 112, 108, 101] [98, 46, 101, 120, 97, 109, 112, 108, 101] = true := by decide +kernel
def noDn : List (Bs × Bs) → Told DV := fun _ => .no 30
theorem ex_ref1 : refG noDn ⟨2, [97, 46, 66, 46, 101, 120, 97, 109, 112, 108, 101], []⟩ false = false := by decide +kernel
theorem ex_ref2 : refG noDn ⟨2, [98, 46, 101, 120, 97, 109, 112, 108, 101], []⟩ true = false := by decide +kernel
namespace N
open K
theorem leaf_new (w : World) (c t : Int) (l : Bs) (hl : l.length ≤ 9223372036854775807) : ValAt (fun k => w.heap.size ≤ k) (w.alloc (.cells (l.map bv).toArray 5)) [.int .i64 c, .int .i64 t, .bool false, .slice (some ⟨w.heap.size, 0, none⟩) l.length l.length, .slice none 0 0] (.mk c t false l []) := by
 refine ⟨1, _, none, 0, rfl, bytes_new w l, fun _ k hk => ?_, ?_, ?_, fun _ => rfl, fun h => absurd rfl h⟩
 ·simp [Value.ownBlock] at hk; omega
 ·exact ⟨by simpa [DV.bytes] using hl, by simp [DV.kids]⟩
 ·simp [DV.kids]
theorem gen_lit (w : World) (k : Int) (s : ByteArray) : GenAt w (gcells k s (.slice none 0 0)) ⟨k, bs s, []⟩ := ⟨s, none, 0, rfl, rfl, dn_nil w⟩
theorem bytes_mark (w : World) (l : Bs) (fr : Nat × Nat) : BytesAt (w.alloc (.cells (l.map bv).toArray 5 fr)) (.slice (some ⟨w.heap.size, 0, none⟩) l.length l.length) l := by
 refine ⟨_, _, by rw [List.length_map], by rw [List.length_map]; exact Nat.le_refl _, fun e => (by cases e), fun _ => ⟨w.heap.size, 0, rfl, fun j v hv => ?_⟩⟩
 have h1 := World.cell?_alloc_mark w (l.map bv).toArray 5 fr j
 rw [Nat.zero_add, h1, List.getElem?_toArray]
 exact hv
theorem leaf_mark (w : World) (c t : Int) (l : Bs) (fr : Nat × Nat) (hl : l.length ≤ 9223372036854775807) : ValAt (fun k => w.heap.size ≤ k) (w.alloc (.cells (l.map bv).toArray 5 fr)) [.int .i64 c, .int .i64 t, .bool false, .slice (some ⟨w.heap.size, 0, none⟩) l.length l.length, .slice none 0 0] (.mk c t false l []) := by
 refine ⟨1, _, none, 0, rfl, bytes_mark w l fr, fun _ k hk => ?_, ?_, ?_, fun _ => rfl, fun h => absurd rfl h⟩
 ·simp [Value.ownBlock] at hk; omega
 ·exact ⟨by simpa [DV.bytes] using hl, by simp [DV.kids]⟩
 ·simp [DV.kids]
theorem anchor_c (w0 : World) (hR : Rdy w0) : Calls Tryz.prog 9 #[] w0 fun e w' => e = .returned (.bool true) ∧ Below w0.heap.size w0 w' := by
 obtain ⟨w1, hw1⟩ := exq (w0.alloc (.cells #[.int .u8 42, .int .u8 134, .int .u8 72] 5))
 have hb1 := allocB hw1
 have hx1 : ValAt (fun k => w0.heap.size ≤ k) w1 [.int .i64 0, .int .i64 6, .bool false, .slice (some ⟨w0.heap.size, 0, none⟩) 3 3, .slice none 0 0] (.mk 0 6 false [42, 134, 72] []) := by rw [← hw1]; exact leaf_new w0 0 6 [42, 134, 72] (by decide)
 have Hc1 := h_ (oid_c w1 _ _ _ (hR.below hb1) hx1 (by decide))
 rw [ex_oid] at Hc1
 simp only [Option.getD_some, Option.isSome_some] at Hc1
 have HR := h_ hR
 have Hb1 := h_ hb1
 clear hR hx1 hb1
 go_enter Tryz.func9, Tryz.ntmps9
 go_wp2_with fail
 refine Hc1.mono ?_
 rintro e w2 ⟨rfl, hb⟩
 have Hb2 := h_ (Hb1.trans (hb.mono Hb1.size))
 clear hb hw1 Hc1 Hb1
 obtain ⟨w3a, hw3a⟩ := exq (w2.alloc (.cells #[.int .u8 52, .int .u8 57, .int .u8 49, .int .u8 50, .int .u8 51, .int .u8 49, .int .u8 50, .int .u8 51, .int .u8 53, .int .u8 57, .int .u8 53, .int .u8 57, .int .u8 90] 5))
 obtain ⟨w3, hw3⟩ := exq (w2.alloc (.cells #[.int .u8 52, .int .u8 57, .int .u8 49, .int .u8 50, .int .u8 51, .int .u8 49, .int .u8 50, .int .u8 51, .int .u8 53, .int .u8 57, .int .u8 53, .int .u8 57, .int .u8 90] 5 (13, 14)))
 have hcv : (convert 22 22 (.slice (some ⟨w2.heap.size, 0, none⟩) 13 13)).run Tryz.prog w3a = .ok (.slice (some ⟨w2.heap.size, 0, none⟩) 13 13) w3 := by
  rw [← hw3a, ← hw3]
  exact Lib.run_convert_bytes_const w2 22 5 #[.int .u8 52, .int .u8 57, .int .u8 49, .int .u8 50, .int .u8 51, .int .u8 49, .int .u8 50, .int .u8 51, .int .u8 53, .int .u8 57, .int .u8 53, .int .u8 57, .int .u8 90] 13 13 Tryz.underlying22 Tryz.underlying5
 have hb3 := allocB hw3
 have hx3 : ValAt (fun k => w2.heap.size ≤ k) w3 [.int .i64 0, .int .i64 23, .bool false, .slice (some ⟨w2.heap.size, 0, none⟩) 13 13, .slice none 0 0] (.mk 0 23 false [52, 57, 49, 50, 51, 49, 50, 51, 53, 57, 53, 57, 90] []) := by rw [← hw3]; exact leaf_mark w2 0 23 [52, 57, 49, 50, 51, 49, 50, 51, 53, 57, 53, 57, 90] (13, 14) (by decide)
 have Hb3 := h_ (Hb2.trans (hb3.mono Hb2.size))
 have Hc3 := h_ (time_c w3 _ _ _ (HR.below (u_ Hb3)).tabs hx3 (by decide))
 rw [ex_time] at Hc3
 clear hx3 hb3 Hb2 hw3
 go_wp2_with fail
 refine Hc3.mono ?_
 rintro e w4 ⟨rfl, hb⟩
 have Hb4 := h_ (Hb3.trans (hb.mono Hb3.size))
 clear hb hw3a hcv Hc3 Hb3
 have Hwi := h_ (within_mach noDn w4 _ _ _ _ (gen_lit w4 2 ⟨#[97, 46, 66, 46, 101, 120, 97, 109, 112, 108, 101]⟩) (gen_lit w4 2 ⟨#[98, 46, 101, 120, 97, 109, 112, 108, 101]⟩) (by decide) (by decide) (by decide) (by decide) rfl rfl ex_ref1 ex_ref2 true (fun wr s s2 hb h1 h2 => by
  have h1' : bs s = [97, 46, 66, 46, 101, 120, 97, 109, 112, 108, 101] := h1
  have h2' : bs s2 = [98, 46, 101, 120, 97, 109, 112, 108, 101] := h2
  have h := machw_c wr (HR.below (Hb4.trans (hb.mono Hb4.size))) s s2 (by rw [← bs_len, h1']; decide) (by rw [← bs_len, h2']; decide) (by rw [h1']; decide) (by rw [h2']; decide)
  rw [h1', h2', ex_mach] at h
  exact h))
 unfold gcells at Hwi
 go_wp2_with fail
 refine Hwi.mono ?_
 rintro e w5 ⟨rfl, hb⟩
 have Hb5 := h_ (Hb4.trans (hb.mono Hb4.size))
 clear hb Hwi Hb4
 go_wp2
 go_ret
 exact ⟨rfl, u_ Hb5⟩
end N
namespace Q
open N K
theorem within_true (w : World) (hR : Rdy w) (cs ds : List Value) (g l : Gen) (hg : GenAt w cs g) (hl : GenAt w ds l) (htg : g.text.length ≤ 281474976710656) (htl : l.text.length ≤ 281474976710656) (hdg : g.dir.length ≤ 281474976710656) (hdl : l.dir.length ≤ 281474976710656) (hlg : ∀ a ∈ g.dir, a.1.length ≤ 281474976710656 ∧ a.2.length ≤ 281474976710656) (hll : ∀ a ∈ l.dir, a.1.length ≤ 281474976710656 ∧ a.2.length ≤ 281474976710656) :
  Calls Tryz.prog 8 #[.agg cs.toArray, .agg ds.toArray] w fun e w' => e = .returned (.bool true) ∧ Below w.heap.size w w' := by
 have HR : Hid (∀ wr, Below w.heap.size w wr → Rdy wr) := fun wr hb => hR.below hb
 have HG : Hid (∀ wr, Below w.heap.size w wr → GenAt wr cs g) := fun wr hb => hg.below hb
 have HL : Hid (∀ wr, Below w.heap.size w wr → GenAt wr ds l) := fun wr hb => hl.below hb
 have HS1 : Hid (∀ wr, Below w.heap.size w wr → _) := fun wr hb => short_c wr cs g (hg.below hb) htg hdg hlg
 have HS2 : Hid (∀ wr, Below w.heap.size w wr → _) := fun wr hb => short_c wr ds l (hl.below hb) htl hdl hll
 obtain ⟨s, sp, c, rfl, _, _⟩ := hg.form
 obtain ⟨s2, sp2, c2, rfl, _, _⟩ := hl.form
 obtain ⟨k, hk⟩ := exq g.kind
 obtain ⟨k', hk'⟩ : ∃ k, l.kind = k := ⟨_, rfl⟩
 obtain ⟨n, hn⟩ := exq g.dir.length
 obtain ⟨n', hn'⟩ : ∃ n, l.dir.length = n := ⟨_, rfl⟩
 obtain ⟨U, hU⟩ := exq (withinR g l)
 obtain ⟨P1, hP1⟩ := exq (shortP g)
 obtain ⟨P2, hP2⟩ := exq (shortP l)
 have HU := h_ hU
 have HP1 := h_ hP1
 have HP2 := h_ hP2
 rw [hk, hn] at HG HS1 ⊢
 rw [hk', hn'] at HL HS2 ⊢
 rw [hP1] at HS1
 rw [hP2] at HS2
 unfold gcells at HG HL HS1 HS2 ⊢
 obtain ⟨w1, X, hw1, eX, hA⟩ := blkN (Below.refl w.heap.size w) #[.int .i64 k, .string s, .slice sp n c] 56
 have hY := Blk.new hA.b #[.int .i64 k', .string s2, .slice sp2 n' c2] 56
 have hA1 := hA.lit (.cells #[.int .i64 k', .string s2, .slice sp2 n' c2] 56)
 obtain ⟨w2, hw2⟩ := exq (w1.alloc (.cells #[.int .i64 k', .string s2, .slice sp2 n' c2] 56))
 obtain ⟨Y, eY⟩ := exq w1.heap.size
 rw [hw2, eY] at hY
 rw [hw2] at hA1
 have HA := h_ hA1
 have HY := h_ hY
 clear hA hA1 hY hk hk' hn hn' hU hP1 hP2 hg hl htg htl hdg hdl hlg hll hR
 go_enter Tryz.func8, Tryz.ntmps8
 have Hanc := h_ (anchor_c w2 (u_ HR w2 HA.b))
 go_wp2_with fail
 refine Hanc.mono ?_
 rintro e w3 ⟨rfl, hb⟩
 have HA3 := h_ (HA.call hb)
 have HY3 := h_ (HY.call hb)
 clear hb HA HY Hanc hw1 hw2 eY eX
 obtain ⟨k0, k1, k2⟩ := three_at (u_ HA3)
 obtain ⟨j0, j1, j2⟩ := three_at (u_ HY3)
 go_wp2_with fail
 refine (u_ HS1 w3 HA3.b).mono ?_
 rintro e w4 ⟨rfl, hb⟩
 have HA4 := h_ (HA3.call hb)
 have HY4 := h_ (HY3.call hb)
 clear hb HA3 HY3 k0 k1 k2 j0 j1 j2
 obtain ⟨k0, k1, k2⟩ := three_at (u_ HA4)
 obtain ⟨j0, j1, j2⟩ := three_at (u_ HY4)
 cases P1 with
 | false =>
  go_wp2
  go_ret
  exact ⟨rfl, HA4.b⟩
 | true =>
 go_wp2_with fail
 refine (u_ HS2 w4 HA4.b).mono ?_
 rintro e w5 ⟨rfl, hb⟩
 have HA5 := h_ (HA4.call hb)
 have HY5 := h_ (HY4.call hb)
 clear hb HA4 HY4 k0 k1 k2 j0 j1 j2
 obtain ⟨k0, k1, k2⟩ := three_at (u_ HA5)
 obtain ⟨j0, j1, j2⟩ := three_at (u_ HY5)
 cases P2 with
 | false =>
  go_wp2
  go_ret
  exact ⟨rfl, HA5.b⟩
 | true =>
 have HB5 := h_ HA5.b
 have HC : Hid (∀ w', Below w5.heap.size w5 w' → (w'.cell? ⟨X, 0, none⟩ = some (.int .i64 k) ∧ w'.cell? ⟨X, 1, none⟩ = some (.string s) ∧ w'.cell? ⟨X, 2, none⟩ = some (.slice sp n c)) ∧ w'.cell? ⟨Y, 0, none⟩ = some (.int .i64 k') ∧ w'.cell? ⟨Y, 1, none⟩ = some (.string s2) ∧ w'.cell? ⟨Y, 2, none⟩ = some (.slice sp2 n' c2)) := fun w' hb => ⟨three_at (HA5.call hb), three_at (HY5.call hb)⟩
 have HO1 := h_ (short_open (u_ HP1))
 have HO2 := h_ (short_open (u_ HP2))
 have HW : Hid (∀ wr, Below w5.heap.size w5 wr → Calls Tryz.prog 34 #[.agg #[.int .i64 k, .string s, .slice sp n c], .agg #[.int .i64 k', .string s2, .slice sp2 n' c2]] wr fun e w' => e = .returned (.bool U) ∧ Below wr.heap.size wr w') := fun wr hb => by
  have hb2 := HB5.trans (hb.mono HB5.size)
  have h1 := u_ HO1
  have h2 := u_ HO2
  have := within_c wr (u_ HR wr hb2) _ _ g l (u_ HG wr hb2) (u_ HL wr hb2) (by omega) (by omega) (by omega) (by omega) (fun a ha => by have := h1.2.2 a ha; omega) (fun a ha => by have := h2.2.2 a ha; omega)
  rw [u_ HU] at this
  exact this
 have HQ : Hid (∀ wr es fs, GenAt wr es g → GenAt wr fs l → Calls Tryz.prog 35 #[.agg es.toArray, .agg fs.toArray] wr fun e w' => e = .returned (.bool U) ∧ Below wr.heap.size wr w') := fun wr es fs h3 h4 => by
  have h1 := u_ HO1
  have h2 := u_ HO2
  have := qwithin_c wr es fs g l h3 h4 (by omega) (by omega) (by omega) (by omega) (fun a ha => by have := h1.2.2 a ha; omega) (fun a ha => by have := h2.2.2 a ha; omega)
  rw [u_ HU] at this
  exact this
 have HG1 : Hid (∀ wr, Below w5.heap.size w5 wr → Calls Tryz.prog 32 #[.agg #[.int .i64 k, .string s, .slice sp n c]] wr fun e w' => ∃ ds : List Value, e = .returned (.agg ds.toArray) ∧ GenAt w' ds g ∧ Below wr.heap.size wr w') := fun wr hb => general_c wr _ g (u_ HG wr (HB5.trans (hb.mono HB5.size))) (by have := u_ HO1; omega)
 have HG2 : Hid (∀ wr, Below w5.heap.size w5 wr → Calls Tryz.prog 32 #[.agg #[.int .i64 k', .string s2, .slice sp2 n' c2]] wr fun e w' => ∃ ds : List Value, e = .returned (.agg ds.toArray) ∧ GenAt w' ds l ∧ Below wr.heap.size wr w') := fun wr hb => general_c wr _ l (u_ HL wr (HB5.trans (hb.mono HB5.size))) (by have := u_ HO2; omega)
 clear HA5 HY5 HG HL HS1 HS2 HO1 HO2 HP1 HP2 HU
 go_wp2
 go_region_held3 (fun w' => (w'.cell? ⟨X, 0, none⟩ = some (.int .i64 k) ∧ w'.cell? ⟨X, 1, none⟩ = some (.string s) ∧ w'.cell? ⟨X, 2, none⟩ = some (.slice sp n c)) ∧ w'.cell? ⟨Y, 0, none⟩ = some (.int .i64 k') ∧ w'.cell? ⟨Y, 1, none⟩ = some (.string s2) ∧ w'.cell? ⟨Y, 2, none⟩ = some (.slice sp2 n' c2)) (go_keep)
  ((first
    | (go_at_call 34
       refine (u_ HW w5.drew (Below.refl _ _).drew).mono ?_
       rintro e w6 ⟨rfl, hb6⟩
       have Hb6 : Hid (Below w5.heap.size w5 w6) := (Below.refl w5.heap.size w5).drew.trans hb6
       obtain ⟨⟨a0, a1, a2⟩, b0, b1, b2⟩ := u_ HC w6 (u_ Hb6)
       clear hb6)
    | (go_at_call_of 32 (Value.agg #[.int .i64 k, .string s, .slice sp n c])
       refine (u_ HG1 w6 (u_ Hb6)).mono ?_
       rintro e w7 ⟨es, rfl, hes, hb7⟩
       have Hb7 : Hid (Below w5.heap.size w5 w7) := Hb6.trans (hb7.mono Hb6.size)
       have Hes := h_ hes
       obtain ⟨⟨a0, a1, a2⟩, b0, b1, b2⟩ := u_ HC w7 (u_ Hb7)
       clear hb7 hes)
    | (go_at_call_of 32 (Value.agg #[.int .i64 k', .string s2, .slice sp2 n' c2])
       refine (u_ HG2 w7 (u_ Hb7)).mono ?_
       rintro e w8 ⟨fs, rfl, hfs, hb8⟩
       have Hb8 : Hid (Below w5.heap.size w5 w8) := Hb7.trans (hb8.mono Hb7.size)
       have Hfs := h_ hfs
       have Hes8 := h_ (Hes.below hb8)
       obtain ⟨⟨a0, a1, a2⟩, b0, b1, b2⟩ := u_ HC w8 (u_ Hb8)
       clear hb8 hfs)
    | (go_at_call 35
       refine (u_ HQ w8 es fs (u_ Hes8) (u_ Hfs)).mono ?_
       rintro e w9 ⟨rfl, hb9⟩
       have Hb9 : Hid (Below w5.heap.size w5 w9) := Hb8.trans (hb9.mono Hb8.size)
       obtain ⟨⟨a0, a1, a2⟩, b0, b1, b2⟩ := u_ HC w9 (u_ Hb9)
       clear hb9)))
 have HB9 : Hid (Below w.heap.size w w9) := HB5.trans (Hb9.mono HB5.size)
 clear a0 a1 a2 b0 b1 b2 HC HW HQ HG1 HG2
 cases U
 all_goals
  go_wp2
  go_ret
  exact ⟨rfl, u_ HB9⟩
end Q
open Go.ChangeShapes Go.WideShapes Go.ChangeAt Go.RowKit Go.Joins Go.Deep
theorem own : ownKnob Tryz.prog.godebug = none := by kernel_rfl
theorem laidOut : laidOutB Tryz.prog = true := by kernel_rfl
def ren9 : Go.Shelf.Ren := ⟨fun x => x, fun | 119 => 143 | 138 => 145 | 139 => 146 | n => n, fun | 3 => 0 | 4 => 1 | n => n⟩
theorem types9 : U8Types Tryz.prog ren9 := ⟨by kernel_rfl, by kernel_rfl, by kernel_rfl, by kernel_rfl⟩
theorem extra9 : U8Extra Tryz.prog ren9 := ⟨by kernel_rfl, by kernel_rfl, by kernel_rfl, by kernel_rfl, by kernel_rfl, by kernel_rfl, by kernel_rfl⟩
theorem first9 : Rows.laid_unicode_utf8_first = Lib.firstData := by kernel_rfl
theorem accept9 : (Rows.laid_unicode_utf8_acceptRanges : DataW Unit) = Lib.acceptData := by kernel_rfl
theorem pow9 : (Rows.laid_internal_strconv_uint64pow10 : DataW Unit) = Lib.tabData .u64 Lib.pow10Tab := by kernel_rfl
theorem tabIs_of_reads {P : Program} {W : World} {name : String} {k : IntKind} {zs : List Int} {g : Nat} {t e : TypeId} {n : Nat}
  (hg : P.globalNamed name = some g) (hty : (P.globals[g]?).map (·.type) = some t) (ht : P.underlying t = some (.array n e)) (he : P.underlying e = some (.int k)) (hce : P.cellsOf e = 1) (hct : P.cellsOf t = n)
  (h : Lib.VarReads P W name (Lib.tabData k zs)) : Lib.TabIs P W name k zs := by
 obtain ⟨g', t', cs, fuel, p, hg', ht', hvar, hd⟩ := h
 obtain rfl := Option.some.inj (hg.symm.trans hg')
 obtain rfl := Option.some.inj (hty.symm.trans ht')
 unfold Lib.TabIs
 rw [hvar, ← Lib.cells_of_tab ht he hce hct hd]
theorem ready_of_laid {W : World} (h : laidMetH Tryz.prog [("math/bits.deBruijn32tab", Rows.laid_math_bits_deBruijn32tab), ("math/bits.deBruijn64tab", Rows.laid_math_bits_deBruijn64tab), ("internal/strconv.uint64pow10", Rows.laid_internal_strconv_uint64pow10), ("unicode/utf8.acceptRanges", Rows.laid_unicode_utf8_acceptRanges), ("unicode/utf8.first", Rows.laid_unicode_utf8_first)] W) (hsh : W.ShapedOpen Tryz.prog) : N.Rdy W := by
 rw [MakeChecks.laidMetH_plain _ _ _ (by kernel_rfl)] at h
 have h1 := Lib.laidMet.reads h (n := "unicode/utf8.first") (d := Rows.laid_unicode_utf8_first) (by simp)
 have h2 := Lib.laidMet.reads h (n := "unicode/utf8.acceptRanges") (d := Rows.laid_unicode_utf8_acceptRanges) (by simp)
 have h3 := Lib.laidMet.reads h (n := "internal/strconv.uint64pow10") (d := Rows.laid_internal_strconv_uint64pow10) (by simp)
 rw [first9] at h1
 rw [accept9] at h2
 rw [pow9] at h3
 exact ⟨utf8Tabs_of_readsT types9 extra9 h1 h2, tabIs_of_reads (g := 2) (t := 188) (e := 163) (n := 20) (by kernel_rfl) (by kernel_rfl) (by kernel_rfl) (by kernel_rfl) (by kernel_rfl) (by kernel_rfl) h3,
  cell_of_shapedOpen_int (g := 3) (t := 3) (zero := #[.int .i64 0]) (k := .i64) hsh (of_decide_eq_true (by kernel_rfl)) (by kernel_rfl) rfl (by kernel_rfl) (by kernel_rfl) Tryz.underlying3⟩
def tabCells : DataW Unit → Array Value
 | .agg l => (l.map fun | .lit x => x.value | _ => undef).toArray
 | _ => #[]
def putTab (g : Nat) (cs : Array Value) (w : World) : World :=
 { w with heap := w.heap.modify g fun
   | .cells _ t frozen => .cells cs t frozen
   | o => o }
def withTabs (w : World) : World :=
 putTab 0 ((List.range 256).map fun c => Value.int .u8 (Lib.firstT c : Int)).toArray (putTab 1 ((List.range 16).flatMap fun i => [Value.int .u8 (Lib.accLo i : Int), Value.int .u8 (Lib.accHi i : Int)]).toArray
  (putTab 2 (tabCells Rows.laid_internal_strconv_uint64pow10) (putTab 4 (tabCells Rows.laid_math_bits_deBruijn32tab) (putTab 5 (tabCells Rows.laid_math_bits_deBruijn64tab) w))))
open Go.ChangeShapes Go.WideShapes Go.ChangeAt Go.RowKit Go.Deep
theorem mem_allN {H : Type} {e : TypeId} {d : DataW H} {n : Nat} (hn : n ∈ d.weights Tryz.prog e) : ∀ {l : List (DataW H)}, d ∈ l → n ∈ DataW.weightsAll Tryz.prog e l
 | a :: r, hd => by
  rw [DataW.weightsAll, List.mem_append]
  rcases List.mem_cons.1 hd with h | h
  ·exact Or.inl (h ▸ hn)
  ·exact Or.inr (mem_allN hn h)
theorem bytesA : Tryz.prog.bytesOf 103 = 32 := by kernel_rfl
theorem dn_arg {H : Type} {enc : TypeId × Value → H} {W : World} {a : Option Addr} {len cap fuel : Nat} {d : DataW H} {pl : List MemPlace}
  (hf : DataW.trod enc Tryz.prog W 0 (fun _ => true) true fuel 53 (Value.slice a len cap).cells.toList = some (d, pl)) (hw : ∀ n ∈ d.weights Tryz.prog 53, n ≤ reachBytes) :
  ∃ l : List (Bs × Bs), l.length = len ∧ len ≤ 281474976710656 ∧ DnAt W (.slice a len cap) l ∧ ∀ x ∈ l, x.1.length ≤ 281474976710656 ∧ x.2.length ≤ 281474976710656 := by
 have hr := reachBytes_lt
 rcases open_slice_pairs Tryz.underlying53 Tryz.underlying103 (by kernel_rfl) rfl rfl (by kernel_rfl) (by kernel_rfl) hf with ⟨hcs, _⟩ | ⟨y, n, c, m, k, V0, V1, D0, D1, P0, P1, hcs, _, hl, hm, hmm, hx, hall⟩
 ·simp [Value.cells] at hcs
  obtain ⟨rfl, rfl, rfl⟩ := hcs
  exact ⟨[], rfl, by omega, dn_nil _, fun x h => by cases h⟩
 ·simp [Value.cells] at hcs
  obtain ⟨rfl, rfl, rfl⟩ := hcs
  have hmc : m = cap := by simpa using hmm
  subst hmc
  have hd : d = .slice ((List.range len).map fun i => .agg [D0 i, D1 i]) ((List.range (m - len)).map fun j => .agg [D0 (len + j), D1 (len + j)]) := (Prod.ext_iff.1 hx).1
  have hp : ∀ i, i < len → ∃ q : ByteArray × ByteArray, W.cell? (y.add (i * 2)) = some (.string q.1) ∧ W.cell? (y.add (i * 2 + 1)) = some (.string q.2) ∧ D0 i = .lit (.string q.1.data.toList) ∧ D1 i = .lit (.string q.2.data.toList) := fun i hi => by
   obtain ⟨h1, h2, h3, h4⟩ := hall i (by omega)
   obtain ⟨u, e1, e2, _⟩ := DataW.trod_string Tryz.underlying9 h3
   obtain ⟨z, e3, e4, _⟩ := DataW.trod_string Tryz.underlying9 h4
   simp only [List.cons.injEq, and_true] at e1 e3
   exact ⟨(u, z), by rw [h1, e1], by rw [h2, e3], (Prod.ext_iff.1 e2).1, (Prod.ext_iff.1 e4).1⟩
  obtain ⟨f, hfl⟩ := choose_lt hp
  have hw1 : (len + (m - len)) * 32 ≤ reachBytes := by
   refine hw _ ?_
   rw [hd, DataW.weights]
   simp only [Tryz.underlying53, bytesA, List.length_map, List.length_range, List.mem_cons, true_or]
  have hll : ((List.range len).map fun i => (N.bs (f i).1, N.bs (f i).2)).length = len := by simp
  refine ⟨(List.range len).map fun i => (N.bs (f i).1, N.bs (f i).2), hll, by omega, ⟨some y, m, by rw [hll], by rw [hll]; exact hl, fun h => (by cases h), fun hne => ?_⟩, fun x hxm => ?_⟩
  ·have hpos : 0 < len := by
    rcases Nat.eq_zero_or_pos len with h | h
    ·subst h; simp at hne
    ·exact h
   obtain ⟨b, o, s⟩ := y
   have hs : s = none := by
    have c0 := (hfl 0 hpos).1
    cases s with
    | none => rfl
    | some k => simp [Addr.add, World.cell?] at c0; split at c0 <;> simp at c0
   subst hs
   refine ⟨b, o, rfl, fun i x hi => ?_⟩
   have hil : i < len := by
    have := (List.getElem?_eq_some_iff.1 hi).1
    rw [hll] at this; exact this
   rw [List.getElem?_map, List.getElem?_range hil] at hi
   simp only [Option.map_some, Option.some.injEq] at hi
   subst hi
   obtain ⟨h1, h2, _⟩ := hfl i hil
   rw [Addr.add_mid] at h1 h2
   simp only [N.st_bs]
   exact ⟨h1, by rw [Nat.add_assoc]; exact h2⟩
  ·obtain ⟨i, hi, rfl⟩ := List.mem_map.1 hxm
   obtain ⟨_, _, h3, h4⟩ := hfl i (List.mem_range.1 hi)
   have key : ∀ z : Nat, z ∈ (DataW.agg [D0 i, D1 i]).weights Tryz.prog 103 → z ≤ reachBytes := fun z hz => by
    refine hw _ ?_
    rw [hd, DataW.weights]
    simp only [Tryz.underlying53, List.mem_cons, List.mem_append]
    exact Or.inr (Or.inl (mem_allN hz (List.mem_map.2 ⟨i, hi, rfl⟩)))
   have g1 := key (f i).1.data.toList.length (by rw [h3, h4]; simp [DataW.weights, DataW.weightsEach, Tryz.underlying103])
   have g2 := key (f i).2.data.toList.length (by rw [h3, h4]; simp [DataW.weights, DataW.weightsEach, Tryz.underlying103])
   exact ⟨by show (f i).1.data.toList.length ≤ _; omega, by show (f i).2.data.toList.length ≤ _; omega⟩
open Go.ChangeShapes Go.WideShapes Go.ChangeAt Go.RowKit Go.Joins Go.Deep
open Go.ChangeShapes Go.WideShapes Go.ChangeAt Go.RowKit Go.Joins Go.Deep
theorem cells3 : Tryz.prog.cellsOf 3 = 1 := by kernel_rfl
open Go.ChangeShapes Go.WideShapes Go.ChangeAt Go.RowKit Go.Joins Go.Deep
theorem cells9 : Tryz.prog.cellsOf 9 = 1 := by kernel_rfl
theorem cellsDn : Tryz.prog.cellsOf 53 = 1 := by kernel_rfl
theorem cellsG : Tryz.prog.cellsOf 56 = 3 := by kernel_rfl
theorem list3 {α : Type} {l : List α} (h : l.length = 3) : ∃ a b c, l = [a, b, c] := by
 match l, h with
 | [a, b, c], _ => exact ⟨a, b, c, rfl⟩
theorem gen_arg {H : Type} {enc : TypeId × Value → H} {W : World} {b0 : Nat} {v : Value} {d : DataW H} {p : List MemPlace} (hv : Value.okWide Tryz.prog W .any b0 56 v) (h : DataW.Trod enc Tryz.prog W 0 (fun _ => true) true 56 v d p) (hw : ∀ n ∈ d.weights Tryz.prog 56, n ≤ reachBytes) :
  ∃ (cs : List Value) (g : Gen), v = .agg cs.toArray ∧ GenAt W cs g ∧ g.text.length ≤ 281474976710656 ∧ g.dir.length ≤ 281474976710656 ∧ ∀ a ∈ g.dir, a.1.length ≤ 281474976710656 ∧ a.2.length ≤ 281474976710656 := by
 have hr := reachBytes_lt
 obtain ⟨⟨cs⟩, rfl, _⟩ := okWide_struct Tryz.underlying56 hv
 obtain ⟨fuel, hf⟩ := h
 cases fuel with
 | zero => simp [DataW.trod] at hf
 | succ fuel =>
  simp only [DataW.trod, Tryz.underlying56, cellsG] at hf
  split at hf
  case isFalse => cases hf
  rename_i hl
  obtain ⟨xs, hm, hxe⟩ := Option.map_eq_some_iff.1 hf
  obtain ⟨y0, _, f0⟩ := Lib.mapM_at hm 0 _ rfl
  obtain ⟨y1, g1, f1⟩ := Lib.mapM_at hm 1 _ rfl
  obtain ⟨y2, g2, f2⟩ := Lib.mapM_at hm 2 _ rfl
  have hl' : cs.length = 3 := hl
  obtain ⟨c0, c1, c2, rfl⟩ := list3 hl'
  have F0 : DataW.trod enc Tryz.prog W 0 (fun _ => true) true fuel 3 [c0] = some y0 := by simpa [cells3, Value.cells] using f0
  have F1 : DataW.trod enc Tryz.prog W 0 (fun _ => true) true fuel 9 [c1] = some y1 := by simpa [cells9, Value.cells] using f1
  have F2 : DataW.trod enc Tryz.prog W 0 (fun _ => true) true fuel 53 [c2] = some y2 := by simpa [cellsDn, Value.cells] using f2
  have hd : d = .agg (xs.map fun x => x.1) := (Prod.ext_iff.1 hxe).1.symm
  have hwe : ∀ (j : Nat) (t : TypeId) (y : DataW H × List MemPlace), ([3, 9, 53] : List TypeId)[j]? = some t → xs[j]? = some y → ∀ z ∈ y.1.weights Tryz.prog t, z ≤ reachBytes := fun j t y ht hy z hz => by
   refine hw z ?_
   rw [hd, DataW.weights]
   simp only [Tryz.underlying56]
   exact DataW.weights_mem_each (ts := [3, 9, 53]) ht (by rw [List.getElem?_map, hy]; rfl) z hz
  obtain ⟨z0, e0, _, _⟩ := DataW.trod_int Tryz.underlying3 F0
  obtain ⟨u, e1, e2, _⟩ := DataW.trod_string Tryz.underlying9 F1
  simp only [List.cons.injEq, and_true] at e0 e1
  clear f0 f1 f2 F0 F1
  subst e0 e1
  obtain ⟨sp, n, c, rfl⟩ : ∃ sb lb cb, c2 = .slice sb lb cb := by
   rcases DataW.trod_slice Tryz.underlying53 F2 with ⟨e, _⟩ | ⟨a, len, cap, _, _, _, _, e, _⟩
   ·simp only [List.cons.injEq, and_true] at e
    exact ⟨_, _, _, e⟩
   ·simp only [List.cons.injEq, and_true] at e
    exact ⟨_, _, _, e⟩
  obtain ⟨l, hn, hb, hdn, hll⟩ := dn_arg (d := y2.1) (pl := y2.2) F2 (hwe 2 53 y2 rfl g2)
  have hu : u.data.toList.length ≤ reachBytes := hwe 1 9 y1 rfl g1 _ (by rw [(Prod.ext_iff.1 e2).1]; simp [DataW.weights])
  subst hn
  exact ⟨[.int .i64 z0, .string u, .slice sp l.length c], ⟨z0, N.bs u, l⟩, rfl, ⟨u, sp, c, rfl, rfl, hdn⟩, by show u.data.toList.length ≤ _; omega, hb, hll⟩
end Go.Proofs.YtcofnockikninaaGreatDoor
