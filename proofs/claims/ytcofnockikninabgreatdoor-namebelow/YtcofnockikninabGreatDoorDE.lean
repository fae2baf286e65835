/-
  The walks of the landed General.Value, isRefused and Within of the kind 4.
-/
import Derived.Test.YtcofnockikninabGreatDoorDb10
import Derived.Test.YtcofnockikninabGreatDoorDC
import Derived.Test.YtcofnockikninabGreatDoorPC
namespace Go.Proofs.YtcofnockikninabGreatDoor
open Go.RowKit
theorem class_val {S : Nat → Prop} {w : World} {c t : Int} {xb xk : Value} {ks : List DV} (h : ValAt S w (dcells 0 t true xb xk) (.mk 0 t true [] ks)) : ValAt S w (dcells c t true xb xk) (.mk c t true [] ks) := by
  obtain ⟨n, h⟩ := h
  cases n with
  | zero => exact h.elim
  | succ n =>
    obtain ⟨xb', sk, ck, e, r⟩ := h
    refine ⟨n + 1, xb', sk, ck, ?_, r⟩
    simp only [dcells, List.cons.injEq, and_true, true_and, DV.cls, DV.tag, DV.made, DV.kids] at e ⊢
    exact e
theorem dnV_no {d : List (Bs × Bs)} {e : Nat} (h : dnV d = .no e) : e ≠ 0 := by
  unfold dnV at h
  split at h
  · cases h; omega
  · split at h
    · cases h; omega
    · split at h
      · cases h; omega
      · cases h
namespace N
open K
set_option maxRecDepth 100000 in
set_option maxHeartbeats 8000000 in
theorem genv4_c (w : World) (hRd : Rdy w) (cs : List Value) (g : Gen) (limit : Bool) (hg : GenAt w cs g) (ht : g.text.length ≤ 1000000000) (hdl : g.dir.length ≤ 1000000000) (hll : ∀ a ∈ g.dir, a.1.length ≤ 1000000 ∧ a.2.length ≤ 1000000) (h4 : g.kind = 4) :
    Calls Tryz.prog 8 #[.agg cs.toArray, .bool limit] w fun e w' => ∃ ds : List Value, e = .returned (.tuple #[.agg ds.toArray, .int .i64 (errOf (genV dnV g limit) : Int)]) ∧ ValAt (fun k => w.heap.size ≤ k) w' ds (valOf (genV dnV g limit)) ∧ Below w.heap.size w w' := by
  obtain ⟨s, sp, c, rfl, hst, hdn⟩ := hg.form
  obtain ⟨n, hn⟩ : ∃ n, g.dir.length = n := ⟨_, rfl⟩
  have hs : s.size ≤ 1000000000 := by rw [← bs_len, hst]; exact ht
  have HNm : Hid (∀ wr : World, Calls Tryz.prog 18 #[.agg #[.int .i64 4, .string s, .slice sp n c], .bool limit] wr fun e w' => e = .returned (.bool (namedP g limit)) ∧ Below wr.heap.size wr w') := fun wr => by
    have := isnamed_c wr g s sp n c limit hs hst hn (by omega)
    rw [h4] at this
    exact this
  rw [h4, hn]
  rw [hn] at hdn
  have hA := Blk.new (Below.refl w.heap.size w) #[.int .i64 4, .string s, .slice sp n c] 28
  obtain ⟨w1, hw1⟩ : ∃ w1, w.alloc (.cells #[.int .i64 4, .string s, .slice sp n c] 28) = w1 := ⟨_, rfl⟩
  obtain ⟨X, eX⟩ : ∃ X, w.heap.size = X := ⟨_, rfl⟩
  rw [hw1, eX] at hA
  have hR0 := Blk.new hA.b #[.int .i64 0, .int .i64 0, .bool false, .slice none 0 0, .slice none 0 0] 36
  have hA1 := hA.lit (.cells #[.int .i64 0, .int .i64 0, .bool false, .slice none 0 0, .slice none 0 0] 36)
  obtain ⟨w2, hw2⟩ : ∃ w2, w1.alloc (.cells #[.int .i64 0, .int .i64 0, .bool false, .slice none 0 0, .slice none 0 0] 36) = w2 := ⟨_, rfl⟩
  obtain ⟨R, eR⟩ : ∃ R, w1.heap.size = R := ⟨_, rfl⟩
  rw [hw2, eR] at hR0
  rw [hw2] at hA1
  obtain ⟨k0, k1, k2⟩ := three_at hA1
  have HA := hide hA1
  have HR := hide hR0
  have Hk := hide (iskind_c w2 4)
  rw [show kindP 4 = true from rfl] at Hk
  have H5 : Hid ((#[.int .i64 0, .int .i64 0, .bool false, .slice none 0 0, .slice none 0 0] : Array Value).all (·.oneCell') = true) := by show _ = true; simp [Value.oneCell']
  have HDn : Hid (∀ wr, Below w.heap.size w wr → Calls Tryz.prog 19 #[.slice sp n c] wr fun e w' => ∃ ds : List Value, e = .returned (.tuple #[.agg ds.toArray, .int .i64 (errOf (dnV g.dir) : Int)]) ∧ ValAt (fun k => wr.heap.size ≤ k) w' ds (valOf (dnV g.dir)) ∧ Below wr.heap.size wr w') := fun wr hb => dnv_c wr (hRd.below hb) sp n c g.dir (hdn.below hb) hll hn (by omega)
  obtain ⟨E, hE⟩ : ∃ E, decide (bs s = []) = E := ⟨_, rfl⟩
  have he : (s.toList == ([] : Bs)) = E := by rw [nil_str, hE]
  have hfm : formG g = E := by
    unfold formG
    rw [h4, ← hst, hE]
    cases E <;> rfl
  have HXR : Hid (X < R ∧ w.heap.size ≤ R) := ⟨by have := hA.lt; omega, by have := hA.b.size; omega⟩
  unfold gcells
  cases E with
  | false =>
    have HE : Hid (errOf (genV dnV g limit) = 30 ∧ valOf (genV dnV g limit) = .mk 0 0 false [] []) := by
      have e : genV dnV g limit = .no 30 := by unfold genV; rw [if_pos hfm]
      rw [e]
      exact ⟨rfl, rfl⟩
    clear hA hA1 hR0 hdn hst hfm h4 hn hE hRd hll
    go_enter Tryz.func8, Tryz.ntmps8
    go_wp2_with fail
    refine (unhide Hk).mono ?_
    rintro e w' ⟨rfl, hw⟩
    obtain rfl := hw
    go_upto_region 2 with fail
    go_wp2_with (refine wpList_store_row rfl 36 _ _ rfl R _ rfl rfl 36 _ (unhide HR).res value5 rfl (unhide H5) ?_)
    exact bodyPost_ret (res_row_tmp Tryz.results8 _ _ R 36 #[.int .i64 0, .int .i64 0, .bool false, .slice none 0 0, .slice none 0 0] (0, 0) _ rfl ((unhide HR).set #[.int .i64 0, .int .i64 0, .bool false, .slice none 0 0, .slice none 0 0]).res Tryz.underlying36 rfl value5 _ rfl) rfl ⟨_, by rw [(unhide HE).1]; rfl, by rw [(unhide HE).2]; exact zero_val _ _, ((unhide HR).set #[.int .i64 0, .int .i64 0, .bool false, .slice none 0 0, .slice none 0 0]).b⟩
  | true =>
    obtain ⟨U, hU⟩ : ∃ U, namedP g limit = U := ⟨_, rfl⟩
    rw [hU] at HNm
    have HV : Hid (genV dnV g limit = if U = false then .no 31 else (match dnV g.dir with | .no _ => .no 31 | .yes d => .yes (.mk 2 4 true [] [d]))) := by
      show _ = _
      unfold genV
      rw [if_neg (by rw [hfm]; simp), hU, if_pos h4]
      rfl
    clear hA hA1 hR0 hdn hst hfm h4 hn hE hRd hll hU
    go_enter Tryz.func8, Tryz.ntmps8
    go_wp2_with (go_at_call 17; refine (unhide Hk).mono ?_; rintro e w' ⟨rfl, hw⟩; obtain rfl := hw)
    refine (unhide HNm _).mono ?_
    rintro e w3 ⟨rfl, hb3⟩
    have HA3 := hide ((unhide HA).call hb3)
    have HR3 := hide ((unhide HR).call hb3)
    clear hb3 k0 k1 k2 hw1 hw2 eR HA HR HNm Hk
    obtain ⟨k0, k1, k2⟩ := three_at (unhide HA3)
    cases U with
    | false =>
      have HE : Hid (errOf (genV dnV g limit) = 31 ∧ valOf (genV dnV g limit) = .mk 0 0 false [] []) := by rw [unhide HV]; exact ⟨rfl, rfl⟩
      go_wp2_with (refine wpList_store_row rfl 36 _ _ rfl R _ rfl rfl 36 _ (unhide HR3).res value5 rfl (unhide H5) ?_)
      exact bodyPost_ret (res_row_tmp Tryz.results8 _ _ R 36 #[.int .i64 0, .int .i64 0, .bool false, .slice none 0 0, .slice none 0 0] (0, 0) _ rfl ((unhide HR3).set #[.int .i64 0, .int .i64 0, .bool false, .slice none 0 0, .slice none 0 0]).res Tryz.underlying36 rfl value5 _ rfl) rfl ⟨_, by rw [(unhide HE).1]; rfl, by rw [(unhide HE).2]; exact zero_val _ _, ((unhide HR3).set #[.int .i64 0, .int .i64 0, .bool false, .slice none 0 0, .slice none 0 0]).b⟩
    | true =>
      have HV2 : Hid (genV dnV g limit = match dnV g.dir with | .no _ => .no 31 | .yes d => .yes (.mk 2 4 true [] [d])) := unhide HV
      have H7 := hide (unhide HDn w3 (unhide HA3).b)
      clear HV HDn
      go_wp2_with fail
      refine (unhide H7).mono ?_
      rintro e w4 ⟨ds4, rfl, hv4, hb⟩
      have HA4 := hide ((unhide HA3).call hb)
      have HR4 := hide ((unhide HR3).call hb)
      have HB34 : Hid (R < w3.heap.size ∧ w3.heap.size ≤ w4.heap.size) := ⟨(unhide HR3).lt, hb.size⟩
      obtain ⟨n4, hv4⟩ := hv4
      obtain ⟨p1, q1, p2, q2, rfl⟩ := hv4.form
      have HV4 := hide hv4
      obtain ⟨V, hV⟩ : ∃ V, valOf (dnV g.dir) = V := ⟨_, rfl⟩
      rw [hV] at HV4
      simp only [hV]
      obtain ⟨vc, hvc⟩ : ∃ vc, V.cls = vc := ⟨_, rfl⟩
      obtain ⟨vt, hvt⟩ : ∃ vt, V.tag = vt := ⟨_, rfl⟩
      obtain ⟨vm, hvm⟩ : ∃ vm, V.made = vm := ⟨_, rfl⟩
      obtain ⟨vl, hvl⟩ : ∃ vl, V.bytes.length = vl := ⟨_, rfl⟩
      obtain ⟨vk, hvk⟩ : ∃ vk, V.kids.length = vk := ⟨_, rfl⟩
      simp only [hvc, hvt, hvm, hvl, hvk] at HV4 ⊢
      have HVV := hide hV
      clear hvc hvt hvm hvl hvk hV hv4 hb H7 HA3 HR3 k0 k1 k2
      unfold dcells at HV4 ⊢
      have hY := Blk.new (unhide HA4).b #[.int .i64 vc, .int .i64 vt, .bool vm, .slice p1 vl q1, .slice p2 vk q2] 36
      obtain ⟨w5, hw5⟩ : ∃ w5, w4.alloc (.cells #[.int .i64 vc, .int .i64 vt, .bool vm, .slice p1 vl q1, .slice p2 vk q2] 36) = w5 := ⟨_, rfl⟩
      obtain ⟨Y, eY⟩ : ∃ Y, w4.heap.size = Y := ⟨_, rfl⟩
      have hb : Below w4.heap.size w4 w5 := by rw [← hw5]; exact (Below.refl _ _).alloc (Nat.le_refl _) _
      rw [hw5, eY] at hY
      obtain ⟨y0, y1, y2, y3, y4⟩ := five_at hY
      have HA5 := hide ((unhide HA4).call hb)
      have HR5 := hide ((unhide HR4).call hb)
      have HV5 := hide ((unhide HV4).below hb)
      obtain ⟨k0, k1, k2⟩ := three_at (unhide HA5)
      obtain ⟨er, her⟩ : ∃ er, errOf (dnV g.dir) = er := ⟨_, rfl⟩
      rw [her]
      cases hD : dnV g.dir with
      | no e =>
        have HE : Hid (errOf (genV dnV g limit) = 31 ∧ valOf (genV dnV g limit) = .mk 0 0 false [] []) := by rw [unhide HV2, hD]; exact ⟨rfl, rfl⟩
        have hne : er ≠ 0 := by rw [← her, hD]; exact dnV_no hD
        have z1 : ((er : Int) != 0) = true := by simp; omega
        have z2 : ((er : Int) == 0) = false := by simp; omega
        clear hY hb HA4 HR4 HV4 her hne hD HV2
        go_upto_region 9 with fail
        go_wp2_with (refine wpList_store_row rfl 36 _ _ rfl R _ rfl rfl 36 _ (unhide HR5).res value5 rfl (unhide H5) ?_)
        exact bodyPost_ret (res_row_tmp Tryz.results8 _ _ R 36 #[.int .i64 0, .int .i64 0, .bool false, .slice none 0 0, .slice none 0 0] (0, 0) _ rfl ((unhide HR5).set #[.int .i64 0, .int .i64 0, .bool false, .slice none 0 0, .slice none 0 0]).res Tryz.underlying36 rfl value5 _ rfl) rfl ⟨_, by rw [(unhide HE).1]; rfl, by rw [(unhide HE).2]; exact zero_val _ _, ((unhide HR5).set #[.int .i64 0, .int .i64 0, .bool false, .slice none 0 0, .slice none 0 0]).b⟩
      | yes dd =>
        have hdd : V = dd := by rw [← unhide HVV, hD]; rfl
        subst hdd
        have HE : Hid (errOf (genV dnV g limit) = 0 ∧ valOf (genV dnV g limit) = .mk 2 4 true [] [V]) := by rw [unhide HV2, hD]; exact ⟨rfl, rfl⟩
        have he0 : er = 0 := by rw [← her, hD]; rfl
        subst he0
        have hL := Blk.new (unhide HA5).b #[.int .i64 vc, .int .i64 vt, .bool vm, .slice p1 vl q1, .slice p2 vk q2] 36
        obtain ⟨w6, hw6⟩ : ∃ w6, w5.alloc (.cells #[.int .i64 vc, .int .i64 vt, .bool vm, .slice p1 vl q1, .slice p2 vk q2] 36) = w6 := ⟨_, rfl⟩
        obtain ⟨LB, eL⟩ : ∃ LB, w5.heap.size = LB := ⟨_, rfl⟩
        have hb6 : Below w5.heap.size w5 w6 := by rw [← hw6]; exact (Below.refl _ _).alloc (Nat.le_refl _) _
        rw [hw6, eL] at hL
        have HL6 := hide hL
        have HA6 := hide ((unhide HA5).call hb6)
        have HR6 := hide ((unhide HR5).call hb6)
        have HV6 := hide ((unhide HV5).below hb6)
        have HLR : Hid (R < LB ∧ w.heap.size ≤ LB) := by
          have h1 := unhide HB34
          have h2 := hb.size
          have h3 := (unhide HA5).b.size
          exact ⟨by omega, by omega⟩
        have H8 : Hid ((#[.int .i64 2, .int .i64 4, .bool true, .slice none 0 0, .slice (some ⟨LB, 0, none⟩) 1 1] : Array Value).all (·.oneCell') = true) := by show _ = true; simp [Value.oneCell']
        clear hY hb HA4 HR4 HV4 her hD HV2 hL hb6 HA5 HR5 HV5
        go_upto_region 10 with fail
        go_wp2_with (refine wpList_store_row rfl 36 _ _ rfl R _ rfl rfl 36 _ (unhide HR6).res value5 rfl (unhide H8) ?_)
        refine bodyPost_ret (res_row_tmp Tryz.results8 _ _ R 36 #[.int .i64 2, .int .i64 4, .bool true, .slice none 0 0, .slice (some ⟨LB, 0, none⟩) 1 1] (0, 0) _ rfl ((unhide HR6).set #[.int .i64 2, .int .i64 4, .bool true, .slice none 0 0, .slice (some ⟨LB, 0, none⟩) 1 1]).res Tryz.underlying36 rfl value5 _ rfl) rfl ⟨[.int .i64 2, .int .i64 4, .bool true, .slice none 0 0, .slice (some ⟨LB, 0, none⟩) 1 1], by rw [(unhide HE).1]; rfl, ?_, ((unhide HR6).set #[.int .i64 2, .int .i64 4, .bool true, .slice none 0 0, .slice (some ⟨LB, 0, none⟩) 1 1]).b⟩
        rw [(unhide HE).2]
        have hv1 : ValAt (fun b => R < b) w6 [.int .i64 vc, .int .i64 vt, .bool vm, .slice p1 vl q1, .slice p2 vk q2] V := ⟨n4, (unhide HV6).mono fun b hb _ => by have := (unhide HB34).1; omega⟩
        have r1 := drow_one (unhide HL6) hv1
        have h2 := class_val (c := 2) (made_val (t := 4) (c := 1) r1 rfl (Nat.le_refl _) (by omega) (unhide HLR).1)
        have h3 := h2.kept (grown_setRowN w6 R #[.int .i64 2, .int .i64 4, .bool true, .slice none 0 0, .slice (some ⟨LB, 0, none⟩) 1 1]) (fun g e hs => by simp only [Option.some.injEq] at e; omega)
        exact h3.mono fun b hb _ => by have := unhide HXR; omega
end N
end Go.Proofs.YtcofnockikninabGreatDoor
/-
  The walks of the landed isRefused and Within of the kind 4.
-/
namespace Go.Proofs.YtcofnockikninabGreatDoor
open Go.RowKit
namespace N
open K
set_option maxRecDepth 100000 in
set_option maxHeartbeats 4000000 in
theorem isref4_c (w : World) (hRd : Rdy w) (cs : List Value) (g : Gen) (limit : Bool) (hg : GenAt w cs g) (ht : g.text.length ≤ 1000000000) (hdl : g.dir.length ≤ 1000000000) (hll : ∀ a ∈ g.dir, a.1.length ≤ 1000000 ∧ a.2.length ≤ 1000000) (h4 : g.kind = 4) :
    Calls Tryz.prog 11 #[.agg cs.toArray, .bool limit] w fun e w' => e = .returned (.bool (refG dnV g limit)) ∧ Below w.heap.size w w' := by
  have HV : Hid (∀ wr, Below w.heap.size w wr → Calls Tryz.prog 8 #[.agg cs.toArray, .bool limit] wr fun e w' => ∃ ds : List Value, e = .returned (.tuple #[.agg ds.toArray, .int .i64 (errOf (genV dnV g limit) : Int)]) ∧ ValAt (fun k => wr.heap.size ≤ k) w' ds (valOf (genV dnV g limit)) ∧ Below wr.heap.size wr w') := fun wr hb => genv4_c wr (hRd.below hb) cs g limit (hg.below hb) ht hdl hll h4
  obtain ⟨s, sp, c, rfl, hst, hdn⟩ := hg.form
  obtain ⟨k, hk⟩ : ∃ k, g.kind = k := ⟨_, rfl⟩
  obtain ⟨n, hn⟩ : ∃ n, g.dir.length = n := ⟨_, rfl⟩
  rw [hk, hn] at HV ⊢
  have hA := Blk.new (Below.refl w.heap.size w) #[.int .i64 k, .string s, .slice sp n c] 28
  obtain ⟨w1, hw1⟩ : ∃ w1, w.alloc (.cells #[.int .i64 k, .string s, .slice sp n c] 28) = w1 := ⟨_, rfl⟩
  obtain ⟨X, eX⟩ : ∃ X, w.heap.size = X := ⟨_, rfl⟩
  rw [hw1, eX] at hA
  obtain ⟨k0, k1, k2⟩ := three_at hA
  have HA := hide hA
  obtain ⟨er, her⟩ : ∃ er, errOf (genV dnV g limit) = er := ⟨_, rfl⟩
  rw [her] at HV
  obtain ⟨U, hU⟩ : ∃ U, decide (er = 0) = U := ⟨_, rfl⟩
  have z1 : ((er : Int) == 0) = U := by rw [← hU]; by_cases h : er = 0 <;> simp [h] <;> omega
  have z2 : ((er : Int) != 0) = !U := by rw [← z1]; rfl
  have HT : Hid (refG dnV g limit = !U) := by show _ = _; unfold refG; rw [her, hU]
  unfold gcells at HV ⊢
  clear hA hdn hst her hU hg hk hn h4 hRd hll
  go_enter Tryz.func11, Tryz.ntmps11
  go_wp2_with fail
  refine (unhide HV w1 (unhide HA).b).mono ?_
  rintro e w2 ⟨ds, rfl, hv, hb⟩
  have HA2 := hide ((unhide HA).call hb)
  obtain ⟨n5, hv⟩ := hv
  obtain ⟨p1, q1, p2, q2, rfl⟩ := hv.form
  obtain ⟨vc, hvc⟩ : ∃ vc, (valOf (genV dnV g limit)).cls = vc := ⟨_, rfl⟩
  obtain ⟨vt, hvt⟩ : ∃ vt, (valOf (genV dnV g limit)).tag = vt := ⟨_, rfl⟩
  obtain ⟨vm, hvm⟩ : ∃ vm, (valOf (genV dnV g limit)).made = vm := ⟨_, rfl⟩
  obtain ⟨vl, hvl⟩ : ∃ vl, (valOf (genV dnV g limit)).bytes.length = vl := ⟨_, rfl⟩
  obtain ⟨vk, hvk⟩ : ∃ vk, (valOf (genV dnV g limit)).kids.length = vk := ⟨_, rfl⟩
  simp only [hvc, hvt, hvm, hvl, hvk]
  unfold dcells
  have HB3 := hide (((unhide HA2).lit (.cells #[.int .i64 vc, .int .i64 vt, .bool vm, .slice p1 vl q1, .slice p2 vk q2] 36)).b)
  obtain ⟨w3, hw3⟩ : ∃ w3, w2.alloc (.cells #[.int .i64 vc, .int .i64 vt, .bool vm, .slice p1 vl q1, .slice p2 vk q2] 36) = w3 := ⟨_, rfl⟩
  rw [hw3] at HB3
  clear hv hb hvc hvt hvm hvl hvk k0 k1 k2 HV
  cases U <;> simp only [Bool.not_true, Bool.not_false] at z2 HT <;>
    (go_wp2
     go_ret
     exact ⟨by rw [unhide HT]; rfl, unhide HB3⟩)
set_option maxRecDepth 100000 in
set_option maxHeartbeats 8000000 in
theorem within4_c (w : World) (hRd : Rdy w) (cs ds : List Value) (g l : Gen) (hg : GenAt w cs g) (hl : GenAt w ds l) (htg : g.text.length ≤ 1000000) (htl : l.text.length ≤ 1000000) (hdg : g.dir.length ≤ 1000000) (hdl : l.dir.length ≤ 1000000) (hlg : ∀ a ∈ g.dir, a.1.length ≤ 1000000 ∧ a.2.length ≤ 1000000) (hll : ∀ a ∈ l.dir, a.1.length ≤ 1000000 ∧ a.2.length ≤ 1000000) (h4 : g.kind = 4) (h5 : l.kind = 4) :
    Calls Tryz.prog 7 #[.agg cs.toArray, .agg ds.toArray] w fun e w' => e = .returned (.bool (!refG dnV g false && !refG dnV l true && dirP g.dir l.dir)) ∧ Below w.heap.size w w' := by
  have HG : Hid (∀ wr, Below w.heap.size w wr → GenAt wr cs g) := fun wr hb => hg.below hb
  have HL : Hid (∀ wr, Below w.heap.size w wr → GenAt wr ds l) := fun wr hb => hl.below hb
  obtain ⟨s, sp, c, rfl, hst, hdn⟩ := hg.form
  obtain ⟨s2, sp2, c2, rfl, hst2, hdn2⟩ := hl.form
  obtain ⟨n, hn⟩ : ∃ n, g.dir.length = n := ⟨_, rfl⟩
  obtain ⟨n', hn'⟩ : ∃ n, l.dir.length = n := ⟨_, rfl⟩
  rw [h4, hn] at HG ⊢
  rw [h5, hn'] at HL ⊢
  rw [hn] at hdn
  rw [hn'] at hdn2
  obtain ⟨U1, hU1⟩ : ∃ U, refG dnV g false = U := ⟨_, rfl⟩
  obtain ⟨U2, hU2⟩ : ∃ U, refG dnV l true = U := ⟨_, rfl⟩
  obtain ⟨D, hD⟩ : ∃ D, dirP g.dir l.dir = D := ⟨_, rfl⟩
  have HRf : Hid (∀ wr, Below w.heap.size w wr → Calls Tryz.prog 11 #[.agg #[.int .i64 4, .string s, .slice sp n c], .bool false] wr fun e w' => e = .returned (.bool U1) ∧ Below wr.heap.size wr w') := fun wr hb => by
    have := isref4_c wr (hRd.below hb) _ g false (unhide HG wr hb) (by omega) (by omega) hlg h4
    rw [hU1] at this
    exact this
  have HRl : Hid (∀ wr, Below w.heap.size w wr → Calls Tryz.prog 11 #[.agg #[.int .i64 4, .string s2, .slice sp2 n' c2], .bool true] wr fun e w' => e = .returned (.bool U2) ∧ Below wr.heap.size wr w') := fun wr hb => by
    have := isref4_c wr (hRd.below hb) _ l true (unhide HL wr hb) (by omega) (by omega) hll h5
    rw [hU2] at this
    exact this
  have HC : Hid (∀ wr, Below w.heap.size w wr → Calls Tryz.prog 14 #[.slice sp n c, .slice sp2 n' c2] wr fun e w' => e = .returned (.bool D) ∧ Below wr.heap.size wr w') := fun wr hb => by
    have := dirw_c wr sp sp2 n n' c c2 g.dir l.dir (hdn.below hb) (hdn2.below hb) hn hn' (by omega)
    rw [hD] at this
    exact this
  rw [hU1, hU2, hD]
  have hA := Blk.new (Below.refl w.heap.size w) #[.int .i64 4, .string s, .slice sp n c] 28
  obtain ⟨w1, hw1⟩ : ∃ w1, w.alloc (.cells #[.int .i64 4, .string s, .slice sp n c] 28) = w1 := ⟨_, rfl⟩
  obtain ⟨X, eX⟩ : ∃ X, w.heap.size = X := ⟨_, rfl⟩
  rw [hw1, eX] at hA
  have hY := Blk.new hA.b #[.int .i64 4, .string s2, .slice sp2 n' c2] 28
  have hA1 := hA.lit (.cells #[.int .i64 4, .string s2, .slice sp2 n' c2] 28)
  obtain ⟨w2, hw2⟩ : ∃ w2, w1.alloc (.cells #[.int .i64 4, .string s2, .slice sp2 n' c2] 28) = w2 := ⟨_, rfl⟩
  obtain ⟨Y, eY⟩ : ∃ Y, w1.heap.size = Y := ⟨_, rfl⟩
  rw [hw2, eY] at hY
  rw [hw2] at hA1
  obtain ⟨k0, k1, k2⟩ := three_at hA1
  obtain ⟨j0, j1, j2⟩ := three_at hY
  have HA := hide hA1
  have HY := hide hY
  unfold gcells
  clear hA hA1 hY hdn hdn2 hst hst2 hg hl hn hn' h4 h5 HG HL hU1 hU2 hD hRd hlg hll
  go_enter Tryz.func7, Tryz.ntmps7
  go_wp2_with fail
  refine (unhide HRf w2 (unhide HA).b).mono ?_
  rintro e w3 ⟨rfl, hb⟩
  have HA3 := hide ((unhide HA).call hb)
  have HY3 := hide ((unhide HY).call hb)
  clear hb k0 k1 k2 j0 j1 j2 HA HY hw1 hw2 eY
  obtain ⟨k0, k1, k2⟩ := three_at (unhide HA3)
  obtain ⟨j0, j1, j2⟩ := three_at (unhide HY3)
  cases U1 with
  | true =>
    go_wp2
    go_ret
    exact ⟨rfl, (unhide HA3).b⟩
  | false =>
    go_wp2_with fail
    refine (unhide HRl w3 (unhide HA3).b).mono ?_
    rintro e w4 ⟨rfl, hb⟩
    have HA4 := hide ((unhide HA3).call hb)
    have HY4 := hide ((unhide HY3).call hb)
    clear hb k0 k1 k2 j0 j1 j2 HA3 HY3
    obtain ⟨k0, k1, k2⟩ := three_at (unhide HA4)
    obtain ⟨j0, j1, j2⟩ := three_at (unhide HY4)
    cases U2 with
    | true =>
      go_wp2
      go_ret
      exact ⟨rfl, (unhide HA4).b⟩
    | false =>
      go_wp2_with fail
      refine (unhide HC w4 (unhide HA4).b).mono ?_
      rintro e w5 ⟨rfl, hb⟩
      have HA5 := hide ((unhide HA4).call hb)
      clear hb
      go_wp2
      go_ret
      exact ⟨by cases D <;> rfl, (unhide HA5).b⟩
end N
end Go.Proofs.YtcofnockikninabGreatDoor
