/-
  The reference's Right and All, walked.
  The reference's Write, walked.
  StoreLasts and on: the reference's store in a variable.
-/
import Derived.Test.YtbjgknoipbekoaaGreatQ28
import Derived.Test.YtbjgknoipbekoaaGreatQ29
import Derived.Test.YtbjgknoipbekoaaGreatQ22
import Derived.Test.YtbjgknoipbekoaaGreatQ3
import Derived.Test.YtbjgknoipbekoaaGreatQ27
namespace Go.Proofs.YtbjgknoipbekoaaGreat
open Go.RowKit
set_option maxRecDepth 100000 in
set_option maxHeartbeats 4000000 in
theorem rright_c {K : Set_} {w : World} {x : Value} {l : List Ch} (hx : ChsAt K w x l) (hn : l.length ≤ 1000000) :
    Calls Tryz.prog 43 #[x] w fun e w' => e = .returned (.bool (decide (RightL l))) ∧ Below w.heap.size w w' := by
  obtain ⟨sp, c, rfl, _⟩ := hx.form
  obtain ⟨N, hN⟩ : ∃ N, l.length = N := ⟨_, rfl⟩
  rw [hN] at hx hn ⊢
  have HN := hide hN
  have HX := hide hx
  obtain ⟨ANS, hA⟩ : ∃ y, decide (RightL l) = y := ⟨_, rfl⟩
  rw [hA]
  have HA := hide hA
  clear hx hN hA
  go_enter Tryz.func43, Tryz.ntmps43
  go_wp2
  go_loopw [3] (fun ii wr => ∃ i : Nat, i ≤ N ∧ ii = .int .i64 (i : Int) ∧ Hid (∀ c ∈ l.take i, rightC c) ∧ Hid (Below w.heap.size w wr)) (fun ii _ => N - (intOf ii).toNat)
  case atStart => exact ⟨0, by omega, rfl, fun l hl => by simp at hl, Below.refl _ _⟩
  case round =>
    obtain ⟨i, hi, rfl, HS, HB⟩ := hrel
    by_cases hlt : i < N
    · obtain ⟨ch, g, o, s1, c1, s2, c2, hop, rfl, hKg, hgl, h3⟩ := ((unhide HX).below (unhide HB)).one (i := i) (by have := unhide HN; omega)
      have f1 : decide ((i : Int) < (N : Int)) = true := by simp; omega
      have f1n : decide (i < N) = true := by simp; omega
      have j0 : (0 : Int) ≤ (i : Int) := by omega
      have j1 : (i : Int) < (N : Int) := by omega
      have k0 := h3.c0
      have k1 := h3.c1
      have k2 := h3.c2
      have HOP := hide hop
      have HMem : Hid (ch ∈ l) := List.mem_of_getElem? hop
      obtain ⟨KN, hKN⟩ : ∃ y, ch.key.length = y := ⟨_, rfl⟩
      obtain ⟨VN, hVN⟩ : ∃ y, ch.val.length = y := ⟨_, rfl⟩
      obtain ⟨gb, hgb⟩ : ∃ y, ch.gone = y := ⟨_, rfl⟩
      rw [hKN] at k0
      rw [hVN] at k1
      rw [hgb] at k2
      have HKN := hide hKN
      have HVN := hide hVN
      have HGB := hide hgb
      clear h3 hop hKN hVN hgb hKg
      by_cases q1 : KN < 1
      · have hf : ANS = false := by
          rw [← unhide HA]
          exact decide_eq_false fun h => by have := (h ch (unhide HMem)).1; have := unhide HKN; omega
        subst hf
        have e1 : decide ((KN : Int) < 1) = true := by simp; omega
        have e1n : decide (KN < 1) = true := by simp; omega
        go_wp2
        go_ret
        exact ⟨rfl, unhide HB⟩
      have e1 : decide ((KN : Int) < 1) = false := by simp; omega
      have e1n : decide (KN < 1) = false := by simp; omega
      by_cases q2 : 32 < KN
      · have hf : ANS = false := by
          rw [← unhide HA]
          exact decide_eq_false fun h => by have := (h ch (unhide HMem)).2.1; have := unhide HKN; omega
        subst hf
        have e2 : decide ((32 : Int) < (KN : Int)) = true := by simp; omega
        have e2n : decide (32 < KN) = true := by simp; omega
        go_wp2
        go_ret
        exact ⟨rfl, unhide HB⟩
      have e2 : decide ((32 : Int) < (KN : Int)) = false := by simp; omega
      have e2n : decide (32 < KN) = false := by simp; omega
      cases gb
      · by_cases q3 : 8192 < VN
        · have hf : ANS = false := by
            rw [← unhide HA]
            exact decide_eq_false fun h => by have := (h ch (unhide HMem)).2.2 (unhide HGB); have := unhide HVN; omega
          subst hf
          have e3 : decide ((8192 : Int) < (VN : Int)) = true := by simp; omega
          have e3n : decide (8192 < VN) = true := by simp; omega
          go_wp2
          go_ret
          exact ⟨rfl, unhide HB⟩
        have e3 : decide ((8192 : Int) < (VN : Int)) = false := by simp; omega
        have e3n : decide (8192 < VN) = false := by simp; omega
        have HS2 := hide (all_step (unhide HS) (unhide HOP) ⟨by have := unhide HKN; omega, by have := unhide HKN; omega, fun _ => by have := unhide HVN; omega⟩)
        go_wp2
        exact ⟨⟨i + 1, by omega, by simp, HS2, HB⟩, by simp [intOf]; omega⟩
      · have HS2 := hide (all_step (unhide HS) (unhide HOP) ⟨by have := unhide HKN; omega, by have := unhide HKN; omega, fun h => by rw [unhide HGB] at h; cases h⟩)
        go_wp2
        exact ⟨⟨i + 1, by omega, by simp, HS2, HB⟩, by simp [intOf]; omega⟩
    · have hin : N = i := by omega
      subst hin
      have f1 : decide ((N : Int) < (N : Int)) = false := by simp
      have f1n : decide (N < N) = false := by simp
      have hf : ANS = true := by
        rw [← unhide HA]
        have h := unhide HS
        rw [List.take_of_length_le (by have := unhide HN; omega)] at h
        exact decide_eq_true h
      subst hf
      go_wp2
      go_ret
      exact ⟨rfl, unhide HB⟩
theorem allp_take {ps : List (Bs × Bs)} {i : Nat} {x : Bs × Bs} (h : ps[i]? = some x) : allP (ps.take i) ++ [⟨x.1, x.2, false⟩] = allP (ps.take (i + 1)) := by
  obtain ⟨hl, e⟩ := List.getElem?_eq_some_iff.1 h
  rw [← List.take_append_getElem hl, e]
  unfold allP
  rw [List.map_append]
  rfl
set_option maxRecDepth 100000 in
set_option maxHeartbeats 4000000 in
theorem rall_c {K : Set_} {w : World} {x : Value} {ps : List (Bs × Bs)} (hx : PrsAt K w x ps) (hn : ps.length ≤ 1000000) :
    Calls Tryz.prog 27 #[x] w fun e w' => ∃ v, e = .returned v ∧ ChsAt (fun k => (K k ∨ w.heap.size ≤ k) ∧ k < w'.heap.size) w' v (allP ps) ∧ Below w.heap.size w w' := by
  obtain ⟨sp, c, rfl, _⟩ := hx.form
  obtain ⟨N, hN⟩ : ∃ N, ps.length = N := ⟨_, rfl⟩
  rw [hN] at hx hn ⊢
  have HN := hide hN
  have HX : Hid (PrsAt (fun k => K k ∧ k < w.heap.size) w (.slice sp N c) ps) := hx.mono fun k hk h => ⟨h, hk⟩
  obtain ⟨K2, hK2⟩ : ∃ y : Set_, (fun k => K k ∧ k < w.heap.size) = y := ⟨_, rfl⟩
  have HKb : Hid (∀ k, K2 k → k < w.heap.size) := fun k hk => by rw [← hK2] at hk; exact hk.2
  have HKa : Hid (∀ k, K2 k → K k ∨ w.heap.size ≤ k) := fun k hk => by rw [← hK2] at hk; exact Or.inl hk.1
  rw [hK2] at HX
  clear hx hN hK2
  go_enter Tryz.func27, Tryz.ntmps27
  go_wp2
  go_loopw [3, 4] (fun ov ii wr => ∃ (i co : Nat) (so : Option Addr) (t : List (Ch × Value × Value)), i ≤ N ∧ ii = .int .i64 (i : Int) ∧ ov = .slice so i co ∧ Hid (t.length = i) ∧ Hid (RcRow K2 w.heap.size wr (.slice so i co) t) ∧ Hid (chsT t = allP (ps.take i)) ∧ Hid (Below w.heap.size w wr)) (fun _ ii _ => N - (intOf ii).toNat)
  case atStart => exact ⟨0, 0, none, [], by omega, rfl, rfl, rfl, rcrow_nil _ _ _, rfl, Below.refl _ _⟩
  case round =>
    obtain ⟨i, co, so, t, hi, rfl, rfl, HTn, HT, HE, HB⟩ := hrel
    by_cases hlt : i < N
    · obtain ⟨pr, g, o, s1, c1, s2, c2, hop, rfl, hKg, hgl, h3⟩ := ((unhide HX).below (unhide HB)).one (i := i) (by have := unhide HN; omega)
      have f1 : decide ((i : Int) < (N : Int)) = true := by simp; omega
      have f1n : decide (i < N) = true := by simp; omega
      have j0 : (0 : Int) ≤ (i : Int) := by omega
      have j1 : (i : Int) < (N : Int) := by omega
      obtain ⟨KN, hKN⟩ : ∃ y, pr.1.length = y := ⟨_, rfl⟩
      obtain ⟨VN, hVN⟩ : ∃ y, pr.2.length = y := ⟨_, rfl⟩
      rw [hKN, hVN] at h3
      have k0 := h3.c0
      have k1 := h3.c1
      have HE2 : Hid (chsT (t ++ [(⟨pr.1, pr.2, false⟩, Value.slice s1 KN c1, Value.slice s2 VN c2)]) = allP (ps.take (i + 1))) := by
        show _ = _
        rw [← allp_take hop]
        unfold chsT
        rw [List.map_append]
        have h := unhide HE
        unfold chsT at h
        rw [h]
        rfl
      have HBa : Hid (Below wr.heap.size wr (wr.drew.alloc (.cells #[Value.slice s1 KN c1, Value.slice s2 VN c2, .bool false] 74))) := (Below.refl _ _).drew.alloc (Nat.le_refl _) _
      have Hsz1 : Hid (w.heap.size ≤ (wr.drew.alloc (.cells #[Value.slice s1 KN c1, Value.slice s2 VN c2, .bool false] 74)).heap.size) := Nat.le_trans (unhide HB).size (unhide HBa).size
      have HE3 := hide (h3.key.aside (S := none_) (Aside.of_below (unhide HBa)) fun _ h => h.elim)
      have HE4 := hide (h3.val.aside (S := none_) (Aside.of_below (unhide HBa)) fun _ h => h.elim)
      clear h3 hop hKN hVN HE hKg
      go_wp2
      go_region_law (first
        | (refine step_append_rch rfl _ _ rfl (.slice so i co) t (by simp [Act.eval]) ((unhide HT).call (unhide HBa)) wr.heap.size 0 1 (by simp [Act.eval]) (⟨pr.1, pr.2, false⟩, Value.slice s1 KN c1, Value.slice s2 VN c2) (cells_new3 _ _ _ _ _).1 (cells_new3 _ _ _ _ _).2.1 (cells_new3 _ _ _ _ _).2.2 rfl rfl (unhide Hsz1) (by have := unhide HTn; omega) (unhide HKb) (unhide HE3) (unhide HE4) ?_
           intro v5 W5 s5 c5 e5 hr5 hb5
           rw [unhide HTn] at e5
           subst e5
           have HT5 := hide hr5
           have HB5 := hide hb5
           clear hr5 hb5))
      all_goals
        have HTn7 : Hid ((t ++ [((⟨pr.1, pr.2, false⟩ : Ch), Value.slice s1 KN c1, Value.slice s2 VN c2)]).length = i + 1) := by show _ = _; rw [List.length_append, unhide HTn]; rfl
        have HB7 := hide (((unhide HB).trans ((unhide HBa).mono (unhide HB).size)).trans (unhide HB5))
        clear HT HB HBa HB5 HE3 HE4 Hsz1 k0 k1
        go_wp2
        exact ⟨⟨i + 1, _, _, _, by omega, by simp, rfl, HTn7, HT5, HE2, HB7⟩, by simp [intOf]; omega⟩
    · have hin : N = i := by omega
      subst hin
      have f1 : decide ((N : Int) < (N : Int)) = false := by simp
      have f1n : decide (N < N) = false := by simp
      have HQ := hide ((unhide HT).at_ (K' := fun k => K k ∨ w.heap.size ≤ k) (unhide HKa) fun k hk => Or.inr hk)
      rw [unhide HE, List.take_of_length_le (by have := unhide HN; omega)] at HQ
      clear HT HE
      go_wp2
      go_ret
      exact ⟨_, rfl, (unhide HQ).mono fun k hk h => ⟨h, hk⟩, unhide HB⟩
end Go.Proofs.YtbjgknoipbekoaaGreat
namespace Go.Proofs.YtbjgknoipbekoaaGreat
open Go.RowKit
theorem two_bytes (w : World) (t : UInt8) (K : Nat) (hK : K ≤ 255) : BytesAt (w.alloc (.cells #[.int .u8 (t.toNat : Int), .int .u8 (K : Int)] 5)) (.slice (some ⟨w.heap.size, 0, none⟩) 2 2) [t, UInt8.ofNat K] := by
  have h := bytes_new w [t, UInt8.ofNat K]
  have e : (UInt8.ofNat K).toNat = K := by rw [UInt8.toNat_ofNat', Nat.mod_eq_of_lt (by omega)]
  simp only [List.map_cons, List.map_nil, bv, e, List.length_cons, List.length_nil] at h
  exact h
theorem gone_bytes {c : Ch} {cur : Bs} {K : Nat} (hg : c.gone = true) (hK : c.key.length = K) : cur ++ [0, UInt8.ofNat K] ++ c.key = cur ++ wr1 c := by
  unfold wr1
  rw [if_pos hg, hK]
  simp
theorem set_bytes {c : Ch} {cur : Bs} {K V : Nat} (hg : c.gone = false) (hK : c.key.length = K) (hV : c.val.length = V) : cur ++ [1, UInt8.ofNat K] ++ c.key ++ bigB V 4 ++ c.val = cur ++ wr1 c := by
  unfold wr1
  rw [if_neg (by rw [hg]; decide), hK, hV]
  simp
set_option maxRecDepth 100000 in
set_option maxHeartbeats 8000000 in
theorem rwriteb_c {K : Set_} {w : World} {x : Value} {l : List Ch} (h0 : ChsAt K w x l) (hr : RightL l) (hl : l.length ≤ 100000) : GivesB w 26 #[x] (wrL l) := by
  have h : ChsAt (fun k => k < w.heap.size) w x l := ⟨h0.form, fun i c hi => by
    obtain ⟨g, o, m, cp, e, _, hl, kv, vv, h3⟩ := h0.at_ i c hi
    exact ⟨g, o, m, cp, e, hl, hl, kv, vv, ⟨h3.c0, h3.c1, h3.c2, ⟨h3.key.at_, fun hne k hk => ValsAt.old h3.key.at_ (by simpa using hne) k hk⟩, ⟨h3.val.at_, fun hne k hk => ValsAt.old h3.val.at_ (by simpa using hne) k hk⟩⟩⟩⟩
  clear h0
  obtain ⟨sp, c, rfl, _⟩ := h.form
  obtain ⟨n, hn⟩ : ∃ n, l.length = n := ⟨_, rfl⟩
  have hw := wrL_le hr
  rw [hn] at h hl hw ⊢
  have H := hide h
  have HN := hide hn
  have HRi := hide hr
  have HW : Hid ((wrL l).length ≤ 900000000) := by show _ ≤ _; omega
  obtain ⟨ANS, hA⟩ : ∃ y, wrL l = y := ⟨_, rfl⟩
  rw [hA]
  have HA := hide hA
  clear h hn hA hr hw
  go_enter Tryz.func26, Tryz.ntmps26
  go_wp2
  go_loopw [3, 4] (fun bb ii wr => ∃ (i LN : Nat) (sq : Option Addr) (cq : Nat), i ≤ n ∧ bb = .slice sq LN cq ∧ ii = .int .i64 (i : Int) ∧ Hid (Row w wr (.slice sq LN cq) (wrL (l.take i)))) (fun _ ii _ => n - (intOf ii).toNat)
  case atStart => exact ⟨0, 0, none, 0, by omega, rfl, rfl, ⟨ownb_nil _ _, Below.refl _ _⟩⟩
  case round =>
    obtain ⟨i, LN, sq, cq, hi, rfl, rfl, HR⟩ := hrel
    by_cases hlt : i < n
    · obtain ⟨ch, g, o, s1, c1, s2, c2, hop, rfl, hKg, hgl, h3w⟩ := (unhide H).one (i := i) (by have := unhide HN; omega)
      have h3 := h3w.aside (S := none_) (Aside.of_below (unhide HR).b) (fun _ h => h.elim) hKg
      have f1 : decide ((i : Int) < (n : Int)) = true := by simp; omega
      have f1n : decide (i < n) = true := by simp; omega
      have j0 : (0 : Int) ≤ (i : Int) := by omega
      have j1 : (i : Int) < (n : Int) := by omega
      have k0 := h3.c0
      have k1 := h3.c1
      have k2 := h3.c2
      have hrc := unhide HRi ch (List.mem_of_getElem? hop)
      have HT : Hid (wrL (l.take (i + 1)) = wrL (l.take i) ++ wr1 ch) := wrL_take hop
      have hkl : ch.key.length ≤ 32 := hrc.2.1
      have HVl : Hid (ch.gone = false → ch.val.length ≤ 8192) := hrc.2.2
      obtain ⟨KN, hKN⟩ : ∃ y, ch.key.length = y := ⟨_, rfl⟩
      obtain ⟨VN, hVN⟩ : ∃ y, ch.val.length = y := ⟨_, rfl⟩
      obtain ⟨gb, hgb⟩ : ∃ y, ch.gone = y := ⟨_, rfl⟩
      have HKw : Hid (BytesAt w (.slice s1 KN c1) ch.key) := by have := h3w.key.at_; rw [hKN] at this; exact this
      have HVw : Hid (BytesAt w (.slice s2 VN c2) ch.val) := by have := h3w.val.at_; rw [hVN] at this; exact this
      rw [hKN] at k0 hkl
      rw [hVN] at k1 HVl
      rw [hgb] at k2 HVl
      obtain ⟨cur, hcur⟩ : ∃ y, wrL (l.take i) = y := ⟨_, rfl⟩
      have HCL : Hid (cur.length ≤ 900000000) := by show _ ≤ _; rw [← hcur]; exact Nat.le_trans (wrL_part l i) (unhide HW)
      rw [hcur] at HR HT
      have HKN := hide hKN
      have HVN := hide hVN
      have HGB := hide hgb
      have u8k : IntKind.u8.wrap (KN : Int) = (KN : Int) := by rw [IntKind.wrap_u8']; omega
      obtain ⟨w1, hw1⟩ : ∃ y, wr.alloc (.cells #[Value.slice s1 KN c1, Value.slice s2 VN c2, .bool gb] 74) = y := ⟨_, rfl⟩
      obtain ⟨m0, m1, m2⟩ := cells_new3 wr (.slice s1 KN c1) (.slice s2 VN c2) (.bool gb) 74
      have hb1 : Below wr.heap.size wr w1 := by rw [← hw1]; exact (Below.refl _ _).alloc (Nat.le_refl _) _
      rw [hw1] at m0 m1 m2
      have HO : Hid ((Value.slice sq LN cq).ownBlock ≠ some wr.heap.size) := row_off (unhide HR)
      have HR1 := hide ((unhide HR).call hb1)
      have HM1 : Hid (w1.cell? ⟨wr.heap.size, 0, none⟩ = some (Value.slice s1 KN c1) ∧ w1.cell? ⟨wr.heap.size, 1, none⟩ = some (Value.slice s2 VN c2)) := ⟨m0, m1⟩
      clear h3 h3w hop hKN hVN hgb hrc hcur HR hKg hgl hb1
      go_upto_region 6 with fail
      cases gb
      · have HVL : Hid (VN ≤ 8192) := unhide HVl rfl
        obtain ⟨W2, hW2⟩ : ∃ y, w1.alloc (.cells #[.int .u8 1, .int .u8 (KN : Int)] 5) = y := ⟨_, rfl⟩
        have hb2 : Below w1.heap.size w1 W2 := by rw [← hW2]; exact (Below.refl _ _).alloc (Nat.le_refl _) _
        have HY2 : Hid (BytesAt W2 (.slice (some ⟨w1.heap.size, 0, none⟩) 2 2) [1, UInt8.ofNat KN]) := by show BytesAt _ _ _; rw [← hW2]; exact two_bytes w1 1 KN (by omega)
        have HR2 := hide ((unhide HR1).call hb2)
        have HM2 : Hid (W2.cell? ⟨wr.heap.size, 0, none⟩ = some (Value.slice s1 KN c1) ∧ W2.cell? ⟨wr.heap.size, 1, none⟩ = some (Value.slice s2 VN c2)) := ⟨cell_aside (S := none_) (unhide HM1).1 (Aside.of_below hb2) (fun h => h), cell_aside (S := none_) (unhide HM1).2 (Aside.of_below hb2) (fun h => h)⟩
        have hlt : wr.heap.size < W2.heap.size := World.block_lt_of_cell? _ _ (unhide HM2).1
        clear hb2 HR1 HM1
        go_upto_region 10 with (first
          | (at_builtin; refine wpList_append_grew rfl _ _ rfl _ _ cur [1, UInt8.ofNat KN] rfl (unhide HR2) rfl (unhide HY2) (by have := unhide HCL; simp; omega) ?_
             intro v3 W3 hR3 hG3
             obtain ⟨s3, c3, e3⟩ := hR3.own.form
             obtain ⟨L3, hL3⟩ : ∃ y, (cur ++ [1, UInt8.ofNat KN]).length = y := ⟨_, rfl⟩
             have HL3 := hide hL3
             rw [hL3] at e3
             subst e3
             have HR3 := hide hR3
             have n0 := grew_cell hG3 (unhide HO) (unhide HM2).1
             have n1 := grew_cell hG3 (unhide HO) (unhide HM2).2
             have HO3 := hide ((Gw.of hG3).off (unhide HO) hlt)
             clear hG3 hR3 hL3))
        have HM3 : Hid (W3.cell? ⟨wr.heap.size, 0, none⟩ = some (Value.slice s1 KN c1) ∧ W3.cell? ⟨wr.heap.size, 1, none⟩ = some (Value.slice s2 VN c2)) := ⟨n0, n1⟩
        have hlt3 : wr.heap.size < W3.heap.size := World.block_lt_of_cell? _ _ n0
        have HK3 := hide ((unhide HKw).below (unhide HR3).b)
        clear n1 HR2 HM2 HY2 hlt hW2
        go_upto_region 11 with (first
          | (at_builtin; refine wpList_append_grew rfl _ _ rfl _ _ _ ch.key rfl (unhide HR3) rfl (unhide HK3) (by have := unhide HCL; have := unhide HKN; simp; omega) ?_
             intro v4 W4 hR4 hG4
             obtain ⟨s4, c4, e4⟩ := hR4.own.form
             obtain ⟨L4, hL4⟩ : ∃ y, (cur ++ [1, UInt8.ofNat KN] ++ ch.key).length = y := ⟨_, rfl⟩
             have HL4 := hide hL4
             rw [hL4] at e4
             subst e4
             have HR4 := hide hR4
             have q1 := grew_cell hG4 (unhide HO3) (unhide HM3).2
             have HO4 := hide ((Gw.of hG4).off (unhide HO3) hlt3)
             clear hG4 hR4 hL4))
        have hlt4 : wr.heap.size < W4.heap.size := World.block_lt_of_cell? _ _ q1
        clear n0 HR3 HM3 HK3 HO3 hlt3
        have HBg := hide (fun w' => big_any w' VN 4 (by have := unhide HVL; have := unhide HVN; omega) (by omega))
        have Hq1 := hide q1
        go_upto_region 12 with (first
          | (go_at_call 55; refine (unhide HBg _).mono ?_
             rintro e W5 ⟨v5, rfl, ho5, hb5⟩
             obtain ⟨s5, c5, e5⟩ := ho5.form
             rw [big_len] at e5
             subst e5
             have HB5 := hide ho5.bytes
             have HR5 := hide ((unhide HR4).call hb5)
             have Hq5 := hide (cell_aside (S := none_) (unhide Hq1) (Aside.of_below hb5) (fun h => h))
             clear ho5 hb5)
          | (at_builtin; refine wpList_append_grew rfl _ _ rfl _ _ _ (bigB VN 4) rfl (unhide HR5) rfl (unhide HB5) (by have := unhide HCL; have := unhide HKN; simp [big_len]; omega) ?_
             intro v6 W6 hR6 hG6
             obtain ⟨s6, c6, e6⟩ := hR6.own.form
             obtain ⟨L6, hL6⟩ : ∃ y, (cur ++ [1, UInt8.ofNat KN] ++ ch.key ++ bigB VN 4).length = y := ⟨_, rfl⟩
             have HL6 := hide hL6
             rw [hL6] at e6
             subst e6
             have HR6 := hide hR6
             have q6 := grew_cell hG6 (unhide HO4) (unhide Hq5)
             clear hG6 hR6 hL6))
        have HV6 := hide ((unhide HVw).below (unhide HR6).b)
        clear q1 Hq1 Hq5 HR4 HR5 HB5 HBg HO4 hlt4
        have Hbd : Hid ((cur ++ [1, UInt8.ofNat KN] ++ ch.key ++ bigB VN 4).length + ch.val.length ≤ 1073741824) := by
          have b1 := unhide HCL
          have b2 := unhide HKN
          have b3 := unhide HVN
          have b4 := unhide HVL
          show _ ≤ _
          simp [big_len]
          omega
        have Hfin : Hid (cur ++ [1, UInt8.ofNat KN] ++ ch.key ++ bigB VN 4 ++ ch.val = wrL (l.take (i + 1))) := by
          show _ = _
          rw [set_bytes (unhide HGB) (unhide HKN) (unhide HVN), ← unhide HT]
        go_wp2_with (first
          | (at_builtin; refine wpList_append_row rfl _ _ rfl _ _ _ ch.val rfl (unhide HR6) rfl (unhide HV6) (unhide Hbd) ?_
             intro v7 W7 hR7
             rw [unhide Hfin] at hR7
             obtain ⟨s7, c7, e7⟩ := hR7.own.form
             subst e7
             have HR7 := hide hR7
             clear hR7))
        exact ⟨⟨i + 1, _, _, _, by omega, rfl, by simp, HR7⟩, by simp [intOf]; omega⟩
      · obtain ⟨W2, hW2⟩ : ∃ y, w1.alloc (.cells #[.int .u8 0, .int .u8 (KN : Int)] 5) = y := ⟨_, rfl⟩
        have hb2 : Below w1.heap.size w1 W2 := by rw [← hW2]; exact (Below.refl _ _).alloc (Nat.le_refl _) _
        have HY2 : Hid (BytesAt W2 (.slice (some ⟨w1.heap.size, 0, none⟩) 2 2) [0, UInt8.ofNat KN]) := by show BytesAt _ _ _; rw [← hW2]; exact two_bytes w1 0 KN (by omega)
        have HR2 := hide ((unhide HR1).call hb2)
        have HM2 : Hid (W2.cell? ⟨wr.heap.size, 0, none⟩ = some (Value.slice s1 KN c1)) := cell_aside (S := none_) (unhide HM1).1 (Aside.of_below hb2) (fun h => h)
        clear hb2 HR1 HM1
        go_upto_region 8 with (first
          | (at_builtin; refine wpList_append_grew rfl _ _ rfl _ _ cur [0, UInt8.ofNat KN] rfl (unhide HR2) rfl (unhide HY2) (by have := unhide HCL; simp; omega) ?_
             intro v3 W3 hR3 hG3
             obtain ⟨s3, c3, e3⟩ := hR3.own.form
             obtain ⟨L3, hL3⟩ : ∃ y, (cur ++ [0, UInt8.ofNat KN]).length = y := ⟨_, rfl⟩
             have HL3 := hide hL3
             rw [hL3] at e3
             subst e3
             have HR3 := hide hR3
             have n0 := grew_cell hG3 (unhide HO) (unhide HM2)
             clear hG3 hR3 hL3))
        have HK3 := hide ((unhide HKw).below (unhide HR3).b)
        clear HR2 HM2 HY2 hW2
        go_wp2_with (first
          | (at_builtin; refine wpList_append_row rfl _ _ rfl _ _ _ ch.key rfl (unhide HR3) rfl (unhide HK3) (by have := unhide HCL; have := unhide HKN; simp; omega) ?_
             intro v7 W7 hR7
             rw [gone_bytes (unhide HGB) (unhide HKN), ← unhide HT] at hR7
             obtain ⟨s7, c7, e7⟩ := hR7.own.form
             subst e7
             have HR7 := hide hR7
             clear hR7))
        exact ⟨⟨i + 1, _, _, _, by omega, rfl, by simp, HR7⟩, by simp [intOf]; omega⟩
    · obtain rfl : i = n := by omega
      have f1 : decide ((i : Int) < (i : Int)) = false := by simp
      have f1n : decide (i < i) = false := by simp
      have HE : Hid (Row w wr (.slice sq LN cq) ANS) := by
        have h := unhide HR
        rw [List.take_of_length_le (by have := unhide HN; omega), unhide HA] at h
        exact h
      clear HR
      go_wp2
      go_ret
      exact ⟨_, rfl, (unhide HE).own, (unhide HE).b⟩
end Go.Proofs.YtbjgknoipbekoaaGreat
namespace Go.Proofs.YtbjgknoipbekoaaGreat
open Go.RowKit
/-- All blocks of the plate (and of the store) are in B, and were made behind w0. -/
def InB (w0 w : World) (B : Set_) : Prop := ∀ j, B j → w0.heap.size ≤ j ∧ j < w.heap.size
theorem InB.mono {w0 w w' : World} {B : Set_} (h : InB w0 w B) (hs : w.heap.size ≤ w'.heap.size) : InB w0 w' B := fun j hj => ⟨(h j hj).1, Nat.lt_of_lt_of_le (h j hj).2 hs⟩
/-- The blocks behind a call. -/
def BN (B : Set_) (w w' : World) : Set_ := fun j => (B j ∨ w.heap.size ≤ j) ∧ j < w'.heap.size
theorem InB.bn {w0 w w' : World} {B : Set_} (h : InB w0 w B) (h0 : w0.heap.size ≤ w.heap.size) : InB w0 w' (BN B w w') := fun j hj => ⟨hj.1.elim (fun h1 => (h j h1).1) fun h1 => by omega, hj.2⟩
theorem lt_of_row {w : World} {A : Nat} {o : Obj} (h : w.heap[A]? = some o) : A < w.heap.size := (Array.getElem?_eq_some_iff.1 h).1
/-- A variable of the reference's stores, in the block A; its pairs lie outside of B and X. -/
structure RV (w0 w : World) (B X : Set_) (A : Nat) (ps : List (Bs × Bs)) (h g u : Nat) (rv : Value) : Prop where
  row : w.heap[A]? = some (.cells [.int .i64 (h : Int), .int .i64 (g : Int), .int .i64 (u : Int), rv].toArray 34 (0, 0))
  out : ¬ B A
  ge : w0.heap.size ≤ A
  prs : PrsAt (fun j => ¬ B j ∧ ¬ X j) w rv ps
theorem PrsAt.bn {B X : Set_} {w w' : World} {x : Value} {l : List (Bs × Bs)} (h : PrsAt (fun j => ¬ B j ∧ ¬ X j) w x l) (ha : Aside B w w') : PrsAt (fun j => ¬ BN B w w' j ∧ ¬ X j) w' x l :=
  ((h.mono (K' := fun j => (¬ B j ∧ ¬ X j) ∧ j < w.heap.size) fun k hk h => ⟨h, hk⟩).aside ha fun k hk h => h.1.1 hk).mono fun k _ h => ⟨fun hb => hb.1.elim h.1.1 fun h2 => by have := h.2; omega, h.1.2⟩
theorem bn_out {B : Set_} {w w' : World} {A : Nat} (h : ¬ B A) (hl : A < w.heap.size) : ¬ BN B w w' A := fun hb => hb.1.elim h fun h2 => by omega
section
variable {w0 w w' : World} {B X : Set_} {A : Nat} {ps : List (Bs × Bs)} {h g u : Nat} {rv : Value}
/-- Behind a call on the plate. -/
theorem RV.call (H : RV w0 w B X A ps h g u rv) (ha : Aside B w w') : RV w0 w' (BN B w w') X A ps h g u rv :=
  ⟨(ha.block A (lt_of_row H.row) H.out).trans H.row, bn_out H.out (lt_of_row H.row), H.ge, H.prs.bn ha⟩
theorem RV.below (H : RV w0 w B X A ps h g u rv) (hb : Below w.heap.size w w') : RV w0 w' B X A ps h g u rv :=
  ⟨(hb.block A (lt_of_row H.row)).trans H.row, H.out, H.ge, H.prs.below hb⟩
/-- Another variable was written. -/
theorem RV.other (H : RV w0 w B X A ps h g u rv) {V : Nat} (ha : Aside (fun j => j = V) w w') (hV : A ≠ V) (hX : X V) : RV w0 w' B X A ps h g u rv :=
  ⟨(ha.block A (lt_of_row H.row) hV).trans H.row, H.out, H.ge, H.prs.aside ha fun _ hk h => h.2 (hk ▸ hX)⟩
/-- Fewer blocks are kept free, or more that the pairs don't lie in. -/
theorem RV.turn (H : RV w0 w B X A ps h g u rv) {Y : Set_} (hY : ∀ j, j < w.heap.size → Y j → X j) : RV w0 w B Y A ps h g u rv :=
  ⟨H.row, H.out, H.ge, H.prs.mono fun k hk h => ⟨h.1, fun hy => h.2 (hY k hk hy)⟩⟩
theorem RV.cells (H : RV w0 w B X A ps h g u rv) : w.cell? ⟨A, 0, none⟩ = some (.int .i64 (h : Int)) ∧ w.cell? ⟨A, 1, none⟩ = some (.int .i64 (g : Int)) ∧ w.cell? ⟨A, 2, none⟩ = some (.int .i64 (u : Int)) ∧ w.cell? ⟨A, 3, none⟩ = some rv :=
  ⟨row_cell H.row 0 _ rfl, row_cell H.row 1 _ rfl, row_cell H.row 2 _ rfl, row_cell H.row 3 _ rfl⟩
end
theorem set_aside (w : World) (A k : Nat) (v : Value) : Aside (fun j => j = A) w (w.setCell ⟨A, k, none⟩ v) := Aside.of_grown (setCell_grown A k v) fun _ e => (Option.some.inj e).symm
theorem info_rs : (Tryz.prog.info? 34).map (·.size) = some 4 := by kernel_rfl
theorem rs_load {w : World} {A : Nat} {a b c d : Value} (h : w.heap[A]? = some (.cells #[a, b, c, d] 34 (0, 0))) : (loadVar 34 ⟨A, 0, none⟩).run Tryz.prog w = .ok (.agg #[a, b, c, d]) w := run_loadVar_row w A 34 34 #[a, b, c, d] (0, 0) _ h Tryz.underlying34 rfl info_rs
set_option maxRecDepth 100000 in
theorem rnew15_c (w : World) (n : Nat) (h2 : 2 ≤ n) (hn : n ≤ 100000) : Calls Tryz.prog 11 #[.int .i64 (n : Int)] w fun e w' => e = .returned (.agg #[.int .i64 (((n - 2) / 2 : Nat) : Int), .int .i64 ((1 : Nat) : Int), .int .i64 ((1 : Nat) : Int), .slice none 0 0]) ∧ Below w.heap.size w w' := by
  obtain ⟨m, hm⟩ : ∃ m, n - 2 = m := ⟨_, rfl⟩
  obtain ⟨h, hh⟩ : ∃ h, m / 2 = h := ⟨_, rfl⟩
  rw [hm, hh]
  have e1 : (n : Int) - 2 = (m : Int) := by omega
  have e2 : (m : Int) / 2 = (h : Int) := by omega
  have e3 : Int.tdiv (m : Int) 2 = (h : Int) := by rw [Int.tdiv_eq_ediv_of_nonneg (by omega)]; exact e2
  have b1 : m ≤ 100000 := by omega
  have b2 : h ≤ 100000 := by omega
  clear hm hh
  go_enter Tryz.func11, Tryz.ntmps11
  go_wp2
  obtain ⟨W, hW⟩ : ∃ y, w.alloc (.cells #[.int .i64 (h : Int), .int .i64 1, .int .i64 1, .slice none 0 0] 34) = y := ⟨_, rfl⟩
  have hb : Below w.heap.size w W := by rw [← hW]; exact (Below.refl _ _).alloc (Nat.le_refl _) _
  have hr : W.heap[w.heap.size]? = some (.cells #[.int .i64 (h : Int), .int .i64 1, .int .i64 1, .slice none 0 0] 34 (0, 0)) := by rw [← hW]; exact (MapKept.heap_alloc w _).1
  rw [hW]
  refine bodyPost_ret (results_cell1 Tryz.results11 _ _ w.heap.size _ rfl (rs_load hr)) rfl ?_
  exact ⟨rfl, hb⟩
/-- A row of four cells is written over. -/
def put4 (w : World) (A : Nat) (a b c d : Value) : World := (((w.setCell ⟨A, 0, none⟩ a).setCell ⟨A, 1, none⟩ b).setCell ⟨A, 2, none⟩ c).setCell ⟨A, 3, none⟩ d
theorem put4_row {w : World} {A : Nat} {T : TypeId} {a b c d a' b' c' d' : Value} (h : w.heap[A]? = some (.cells [a, b, c, d].toArray T (0, 0))) : (put4 w A a' b' c' d').heap[A]? = some (.cells [a', b', c', d'].toArray T (0, 0)) :=
  row_put (row_put (row_put (row_put h 0 (by simp) a') 1 (by simp) b') 2 (by simp) c') 3 (by simp) d'
theorem put4_aside (w : World) (A : Nat) (a b c d : Value) : Aside (fun j => j = A) w (put4 w A a b c d) :=
  (((set_aside w A 0 a).trans (set_aside _ A 1 b) fun _ _ h => h).trans (set_aside _ A 2 c) fun _ _ h => h).trans (set_aside _ A 3 d) fun _ _ h => h
theorem RV.put {w0 w : World} {B X : Set_} {A : Nat} {ps qs : List (Bs × Bs)} {h g u h' g' u' : Nat} {rv qv : Value} (H : RV w0 w B X A ps h g u rv) (hX : X A) (hq : PrsAt (fun j => ¬ B j ∧ ¬ X j) w qv qs) : RV w0 (put4 w A (.int .i64 (h' : Int)) (.int .i64 (g' : Int)) (.int .i64 (u' : Int)) qv) B X A qs h' g' u' qv :=
  ⟨put4_row H.row, H.out, H.ge, hq.aside (put4_aside w A _ _ _ _) fun _ hk h => h.2 (hk ▸ hX)⟩
theorem rs_right {l : List Ch} (h : SmallL l) : ∀ c ∈ l, c.key.length ≤ 1099511627776 := fun c hc => by have := (h.2 c hc).1; omega
theorem keys_right {ps : List (Bs × Bs)} (h : RightP ps) : KeysL ps := fun x hx => by have := (h x hx).2.1; omega
end Go.Proofs.YtbjgknoipbekoaaGreat
