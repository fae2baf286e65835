/-
  The walk of the reference's Sectors (layer 14).
  The statements' same (layer 14), walked; slices of slices that grow.
  WalGenerations, walked out of the records Plate and Wal.
  Plain words on WalKeeps (layer 14): a life of a log, not cut off and cut off.
  What stands in memory while WalKeeps goes through a turn.
-/
import Derived.Test.YtfpndphfibfdiaaQ16
import Derived.Test.YtfpndphfibfdiaaQ10
import Derived.Test.YtfpndphfibfdiaaQ3
import Derived.Test.YtfpndphfibfdiaaQ2
namespace Go.Proofs.Ytfpndphfibfdiaa
open Go.RowKit
theorem one_zero (W : World) : BytesAt (W.alloc (.cells #[.int .u8 0] 5)) (.slice (some ⟨W.heap.size, 0, none⟩) 1 1) [0] := bytes_new W [0]
/-- What stands in the second loop of Sectors. -/
structure SecI (b : Bs) (g o m : Nat) (w1 wr : World) (bo ov : Value) (i : Nat) (vs : List Value) : Prop where
  len : vs.length = i
  own : OwnV 30 wr w1.heap.size ov vs
  each : ∀ (k : Nat) (v : Value), vs[k]? = some v → BytesAt wr v (partS b g o m k) ∧ (∀ q, v.ownBlock = some q → ov.ownBlock ≠ some q ∧ q < wr.heap.size ∧ w1.heap.size ≤ q)
  body : BytesAt wr bo (bodyOf b)
  bap : ∀ q, bo.ownBlock = some q → ov.ownBlock ≠ some q ∧ q < wr.heap.size
  b : Below w1.heap.size w1 wr
theorem SecI.next {b : Bs} {g o m : Nat} {w1 wr w3 w5 : World} {bo ov v' s : Value} {i : Nat} {vs : List Value} {T : TypeId} (h : SecI b g o m w1 wr bo ov i vs) (hs : Row wr w3 s (partS b g o m i)) (hsl : (partS b g o m i).length = 64)
    (ho : OwnV 30 w5 w1.heap.size v' (vs ++ [s])) (hg : (w3.alloc (.cells #[s] T)).grownBy w5 ov.ownBlock) (hor : v'.ownBlock = ov.ownBlock ∨ v'.ownBlock = some (w3.alloc (.cells #[s] T)).heap.size) : SecI b g o m w1 w5 bo v' (i + 1) (vs ++ [s]) := by
  have hb4 : Below wr.heap.size wr (w3.alloc (.cells #[s] T)) := hs.b.alloc hs.b.size _
  have hs4 : (w3.alloc (.cells #[s] T)).heap.size = w3.heap.size + 1 := by simp
  have hb3 : Below w3.heap.size w3 (w3.alloc (.cells #[s] T)) := (Below.refl _ _).alloc (Nat.le_refl _) _
  obtain ⟨w4, hw4⟩ : ∃ x, w3.alloc (.cells #[s] T) = x := ⟨_, rfl⟩
  rw [hw4] at hg hor hb4 hs4 hb3
  have hlt : ∀ q, ov.ownBlock = some q → q < wr.heap.size := fun q hq => (World.ownsRow.lt h.own q hq).2
  have hA : Aside (fun k => ov.ownBlock = some k) w4 w5 := Aside.of_grown hg fun k hk => hk
  have hsz := hs.b.size
  have h5 := hg.size
  have hap : ∀ q, q < w4.heap.size → ov.ownBlock ≠ some q → v'.ownBlock ≠ some q := fun q hq hn e => by
    rcases hor with h1 | h1
    · exact hn (h1 ▸ e)
    · rw [h1] at e; simp only [Option.some.injEq] at e; omega
  have hsb : ∀ q, s.ownBlock = some q → wr.heap.size ≤ q ∧ q < w3.heap.size := fun q hq => World.ownsRow.lt hs.own q hq
  refine ⟨by rw [List.length_append, h.len]; rfl, ho, fun k v hv => ?_, (h.body.below hb4).aside hA fun q hq hS => (h.bap q hq).1 hS, fun q hq => ?_, ?_⟩
  · by_cases hk : k < vs.length
    · rw [List.getElem?_append_left hk] at hv
      obtain ⟨e1, e2⟩ := h.each k v hv
      refine ⟨(e1.below hb4).aside hA fun q hq hS => (e2 q hq).1 hS, fun q hq => ?_⟩
      have := (e2 q hq).2.1
      have := hb4.size
      exact ⟨hap q (by omega) (e2 q hq).1, by omega, (e2 q hq).2.2⟩
    · rw [List.getElem?_append_right (by omega)] at hv
      match hkk : k - vs.length, hv with
      | 0, hv =>
        simp only [List.getElem?_cons_zero, Option.some.injEq] at hv
        subst hv
        have hki : k = i := by have := h.len; omega
        subst hki
        refine ⟨(hs.bytes.below hb3).aside hA fun q hq hS => ?_, fun q hq => ?_⟩
        · have := hlt q hS; have := (hsb q hq).1; omega
        · have h1 := hsb q hq
          have h2 := h.b.size
          exact ⟨hap q (by omega) (fun e => by have := hlt q e; omega), by omega, by omega⟩
      | j + 1, hv => simp at hv
  · have := (h.bap q hq).2
    have := hb4.size
    exact ⟨hap q (by omega) (h.bap q hq).1, by omega⟩
  · have h1 : Below w1.heap.size w1 w4 := h.b.trans (hb4.mono h.b.size)
    exact h1.trans (hA.below (Nat.le_trans h.b.size hb4.size) fun k hk => (World.ownsRow.lt h.own k hk).1)
set_option maxRecDepth 100000 in
set_option maxHeartbeats 8000000 in
theorem rsectors_c (w : World) (x : Value) (b : Bs) (g o m : Nat) (hx : BytesAt w x b) (hb : b.length ≤ 65536) (hg : g ≤ 4294967296) (ho : o ≤ 4294967296) (hm : m ≤ 4294967296) :
    Calls Try.prog 11 #[x, .int .i64 (g : Int), .int .i64 (o : Int), .int .i64 (m : Int)] w fun e w' => ∃ v vs, e = .returned v ∧ FreshL w.heap.size w' v vs (recS b g o m) ∧ Below w.heap.size w w' := by
  obtain ⟨sx, cx, rfl, _⟩ := bytes_open hx
  obtain ⟨N, hN⟩ : ∃ N, b.length = N := ⟨_, rfl⟩
  obtain ⟨M, hM⟩ : ∃ M, needs N = M := ⟨_, rfl⟩
  have hMb : M ≤ 1366 := by rw [← hM]; exact needs_most (by omega)
  have hM1 : 1 ≤ M := by rw [← hM]; exact needs_pos _
  have hfit := needs_fit N
  rw [hM] at hfit
  have HX := hide hx
  have HN := hide hN
  have HM := hide hM
  have Hn := hide (needs_c w N (by omega))
  rw [hM] at Hn
  rw [hN]
  clear hx hN hM
  go_enter Try.func11, Try.ntmps11
  go_wp2_with fail
  refine (unhide Hn).mono ?_
  rintro e w1 ⟨rfl, hw⟩
  obtain rfl := hw
  clear Hn
  have Hb := hide (big_any w1 N 4 (by omega) (by omega))
  go_wp2_with fail
  refine (unhide Hb).mono ?_
  rintro e w2 ⟨v2, rfl, h2⟩
  obtain ⟨s2, c2, e2⟩ := h2.own.form
  rw [big_len] at e2
  subst e2
  have HR2 := hide h2
  clear h2 Hb
  have Hj := hide (join_any w2 (.slice s2 4 c2) _ (bigB N 4) b (unhide HR2).bytes ((unhide HX).below (unhide HR2).b) (by rw [big_len]; omega))
  rw [unhide HN] at Hj
  go_wp2_with fail
  refine (unhide Hj).mono ?_
  rintro e w3 ⟨v3, rfl, h3⟩
  obtain ⟨s3, c3, e3⟩ := h3.own.form
  rw [List.length_append, big_len, unhide HN] at e3
  subst e3
  have HR3 := hide (h3.up (unhide HR2).b)
  clear h3 Hj HR2
  go_wp2
  go_loopw [10] (fun bb wr => ∃ (j c : Nat) (sp : Option Addr), 4 + N + j ≤ 48 * M ∧ bb = .slice sp (4 + N + j) c ∧ Hid (Row w1 wr (.slice sp (4 + N + j) c) (bigB N 4 ++ b ++ List.replicate j 0))) (fun bb _ => 48 * M - (match bb with | .slice _ n _ => n | _ => 0))
  case atStart => exact ⟨0, c3, s3, by omega, rfl, by show Row _ _ _ _; rw [List.replicate_zero, List.append_nil]; exact unhide HR3⟩
  case round =>
    clear HR3
    obtain ⟨j, c, sp, hj, rfl, HR⟩ := hrel
    obtain ⟨LL, hLL⟩ : ∃ y, 4 + N + j = y := ⟨_, rfl⟩
    obtain ⟨TT, hTT⟩ : ∃ y, 48 * M = y := ⟨_, rfl⟩
    have eTT : (48 : Int) * (M : Int) = (TT : Int) := by omega
    rw [hLL] at HR ⊢
    by_cases hlt : LL < TT
    · have f1 : decide ((LL : Int) < (TT : Int)) = true := by simp; omega
      have f1n : decide (LL < TT) = true := by simp; omega
      have HL : Hid ((bigB N 4 ++ b ++ List.replicate j 0).length = LL) := by show _ = _; simp only [List.length_append, big_len, List.length_replicate]; have := unhide HN; omega
      have HR1 := hide ((unhide HR).lit (.cells #[.int .u8 0] 5))
      have HZ := hide (one_zero wr)
      have HN2 : Hid (bigB N 4 ++ b ++ List.replicate j 0 ++ [0] = bigB N 4 ++ b ++ List.replicate (j + 1) 0) := by show _ = _; rw [List.replicate_succ', List.append_assoc (bigB N 4 ++ b)]
      have hLT : LL ≤ 70000 := by omega
      have Hjj : Hid (4 + N + (j + 1) = LL + 1 ∧ LL + 1 ≤ 48 * M) := ⟨by omega, by omega⟩
      clear HR hLL hTT
      go_wp2_with (at_builtin; refine wpList_append_row rfl _ _ rfl (.slice sp LL c) (.slice (some ⟨wr.heap.size, 0, none⟩) 1 1) _ [0] rfl (unhide HR1) rfl (unhide HZ) (by rw [unhide HL]; simp; omega) ?_
                   intro v3 W3 hR3
                   rw [unhide HN2] at hR3
                   obtain ⟨p3, q3, e3⟩ := hR3.own.form
                   have hl3 : (bigB N 4 ++ b ++ List.replicate (j + 1) 0).length = LL + 1 := by rw [← unhide HN2, List.length_append, unhide HL]; rfl
                   rw [hl3] at e3
                   subst e3
                   have HR3 := hide hR3
                   clear hR3 hl3)
      refine ⟨⟨j + 1, q3, p3, by have := unhide Hjj; omega, ?_, ?_⟩, ?_⟩
      · rw [(unhide Hjj).1]
      · rw [(unhide Hjj).1]; exact HR3
      · have := (unhide Hjj).2
        simp
        omega
    · have hLT : LL = TT := by omega
      subst hLT
      have f1 : decide ((LL : Int) < (LL : Int)) = false := by simp
      have hbody : bigB N 4 ++ b ++ List.replicate j 0 = bodyOf b := by
        unfold bodyOf
        rw [unhide HN, List.append_assoc, unhide HM, show 48 * M - (4 + N) = j by omega]
      rw [hbody] at HR
      have HBL : Hid ((bodyOf b).length = LL) := by show _ = _; rw [body_len, unhide HN, unhide HM]; exact hTT
      have HTT := hide hTT
      clear hbody hLL hlt eTT
      have HS0 : Hid (SecI b g o m w1 wr (.slice sp LL c) (.slice none 0 0) 0 []) := ⟨rfl, own_nil _ _ _, fun k v hv => by simp at hv, (unhide HR).bytes, fun q hq => ⟨by simp [Value.ownBlock], (World.ownsRow.lt (unhide HR).own q hq).2⟩, (unhide HR).b⟩
      clear HR
      go_wp2
      go_loopw [11, 12] (fun oo ii wq => ∃ (i co : Nat) (so : Option Addr) (vs : List Value), i ≤ M ∧ oo = .slice so i co ∧ ii = .int .i64 (i : Int) ∧ Hid (SecI b g o m w1 wq (.slice sp LL c) (.slice so i co) i vs)) (fun _ ii _ => M - (intOf ii).toNat)
      case atStart => exact ⟨0, 0, none, [], by omega, rfl, rfl, HS0⟩
      case round =>
        clear HS0
        obtain ⟨i, co, so, vs, hi, rfl, rfl, HS⟩ := hrel
        rename World => wy
        by_cases hltM : i < M
        · have f2 : decide ((i : Int) < (M : Int)) = true := by simp; omega
          have f2n : decide (i < M) = true := by simp; omega
          obtain ⟨M1, hM1'⟩ : ∃ y, M - 1 = y := ⟨_, rfl⟩
          have eM1 : (M : Int) - 1 = (M1 : Int) := by omega
          obtain ⟨F, hF⟩ : ∃ y, 48 * i = y := ⟨_, rfl⟩
          obtain ⟨G, hG⟩ : ∃ y, F + 48 = y := ⟨_, rfl⟩
          have eF : (48 : Int) * (i : Int) = (F : Int) := by omega
          have eG : (F : Int) + 48 = (G : Int) := by omega
          have hcap : LL ≤ c := by
            obtain ⟨_, c', e_, h_, _⟩ := bytes_open (unhide HS).body
            simp only [Value.slice.injEq] at e_
            have := unhide HBL
            omega
          have hsl : ∀ w, (Instr.sliceAt 30 (.slice sp LL c) (some (.int .i64 (F : Int))) (some (.int .i64 (G : Int))) none).run Try.prog w = .ok (.slice (cutAt sp c F) 48 (c - F)) w := fun w => by
            have := slice_mid sp LL c F G (by omega) (by omega) w
            rwa [show G - F = 48 by omega] at this
          have HPart : Hid (∀ w', Below wy.heap.size wy w' → BytesAt w' (.slice (cutAt sp c F) 48 (c - F)) (((bodyOf b).drop (48 * i)).take 48)) := fun w' hb => by
            have h_ := (unhide HS).body.below hb
            rw [← unhide HBL] at h_
            have := bytes_part h_ F G (by omega) (by rw [unhide HBL]; omega)
            rw [show G - F = 48 by omega] at this
            rw [hF]
            exact this
          have HPl : Hid ((((bodyOf b).drop (48 * i)).take 48).length = 48) := by show _ = _; rw [List.length_take, List.length_drop, unhide HBL]; omega
          have HPS : Hid (bigB g 4 ++ bigB o 4 ++ bigB m 4 ++ bigB i 2 ++ bigB M1 2 ++ ((bodyOf b).drop (48 * i)).take 48 = partS b g o m i) := by
            show _ = _
            unfold partS headS
            rw [unhide HN, unhide HM, hM1']
            simp only [List.append_assoc]
          have HPL : Hid ((partS b g o m i).length = 64) := part_len g o m (by rw [unhide HN, unhide HM]; exact hltM)
          obtain ⟨PT, hPT⟩ : ∃ y, ((bodyOf b).drop (48 * i)).take 48 = y := ⟨_, rfl⟩
          rw [hPT] at HPart HPl HPS
          clear hPT hM1' hF hG hcap
          have Hbp1 := hide (big_any wy g 4 (by omega) (by omega))
          go_wp2_with fail
          refine (unhide Hbp1).mono ?_
          rintro e u1 ⟨v_, rfl, h_⟩
          obtain ⟨sp1, cp1, e_⟩ := h_.own.form
          rw [big_len] at e_
          subst e_
          have HRp1 := hide h_
          clear h_ Hbp1
          have Hbp2 := hide (big_any u1 o 4 (by omega) (by omega))
          go_wp2_with fail
          refine (unhide Hbp2).mono ?_
          rintro e u2 ⟨v_, rfl, h_⟩
          obtain ⟨sp2, cp2, e_⟩ := h_.own.form
          rw [big_len] at e_
          subst e_
          have HRp2 := hide h_
          clear h_ Hbp2
          have Hj := hide (join_any u2 (.slice sp1 4 cp1) (.slice sp2 4 cp2) (bigB g 4) (bigB o 4) ((unhide HRp1).bytes.below (unhide HRp2).b) (unhide HRp2).bytes (by simp [big_len]))
          go_wp2_with fail
          refine (unhide Hj).mono ?_
          rintro e u3 ⟨v_, rfl, h_⟩
          obtain ⟨sp3, cp3, e_⟩ := h_.own.form
          rw [show (bigB g 4 ++ bigB o 4).length = 8 from by simp [big_len]] at e_
          subst e_
          have HRp3 : Hid (Row wy u3 (.slice sp3 8 cp3) (bigB g 4 ++ bigB o 4)) := h_.up ((unhide HRp1).b.trans ((unhide HRp2).b.mono (unhide HRp1).b.size))
          clear h_ Hj HRp1 HRp2
          have Hbp4 := hide (big_any u3 m 4 (by omega) (by omega))
          go_wp2_with fail
          refine (unhide Hbp4).mono ?_
          rintro e u4 ⟨v_, rfl, h_⟩
          obtain ⟨sp4, cp4, e_⟩ := h_.own.form
          rw [big_len] at e_
          subst e_
          have HRp4 := hide h_
          clear h_ Hbp4
          have HQ4 := hide ((unhide HRp3).call (unhide HRp4).b)
          have HY4 := hide (unhide HRp4).bytes
          clear HRp3 HRp4
          go_wp2_with (at_builtin; refine wpList_append_row rfl _ _ rfl (.slice sp3 8 cp3) (.slice sp4 4 cp4) (bigB g 4 ++ bigB o 4) (bigB m 4) rfl (unhide HQ4) rfl (unhide HY4) (by simp [big_len]) ?_
                       intro v_ u5 h_
                       obtain ⟨sp5, cp5, e_⟩ := h_.own.form
                       have hl_ : ((bigB g 4 ++ bigB o 4) ++ (bigB m 4)).length = 12 := by simp [big_len]
                       rw [hl_] at e_
                       subst e_
                       have HRp5 := hide h_
                       clear h_ hl_)
          clear HQ4 HY4
          have Hbp6 := hide (big_any u5 i 2 (by omega) (by omega))
          go_wp2_with fail
          refine (unhide Hbp6).mono ?_
          rintro e u6 ⟨v_, rfl, h_⟩
          obtain ⟨sp6, cp6, e_⟩ := h_.own.form
          rw [big_len] at e_
          subst e_
          have HRp6 := hide h_
          clear h_ Hbp6
          have HQ6 := hide ((unhide HRp5).call (unhide HRp6).b)
          have HY6 := hide (unhide HRp6).bytes
          clear HRp5 HRp6
          go_wp2_with (at_builtin; refine wpList_append_row rfl _ _ rfl (.slice sp5 12 cp5) (.slice sp6 2 cp6) (bigB g 4 ++ bigB o 4 ++ bigB m 4) (bigB i 2) rfl (unhide HQ6) rfl (unhide HY6) (by simp [big_len]) ?_
                       intro v_ u7 h_
                       obtain ⟨sp7, cp7, e_⟩ := h_.own.form
                       have hl_ : ((bigB g 4 ++ bigB o 4 ++ bigB m 4) ++ (bigB i 2)).length = 14 := by simp [big_len]
                       rw [hl_] at e_
                       subst e_
                       have HRp7 := hide h_
                       clear h_ hl_)
          clear HQ6 HY6
          have Hbp8 := hide (big_any u7 M1 2 (by omega) (by omega))
          go_wp2_with fail
          refine (unhide Hbp8).mono ?_
          rintro e u8 ⟨v_, rfl, h_⟩
          obtain ⟨sp8, cp8, e_⟩ := h_.own.form
          rw [big_len] at e_
          subst e_
          have HRp8 := hide h_
          clear h_ Hbp8
          have HQ8 := hide ((unhide HRp7).call (unhide HRp8).b)
          have HY8 := hide (unhide HRp8).bytes
          clear HRp7 HRp8
          go_wp2_with (first
            | (at_builtin; refine wpList_append_row rfl _ _ rfl (.slice sp7 14 cp7) (.slice sp8 2 cp8) (bigB g 4 ++ bigB o 4 ++ bigB m 4 ++ bigB i 2) (bigB M1 2) rfl (unhide HQ8) rfl (unhide HY8) (by simp [big_len]) ?_
               intro v_ u9 h_
               obtain ⟨sp9, cp9, e_⟩ := h_.own.form
               have hl_ : ((bigB g 4 ++ bigB o 4 ++ bigB m 4 ++ bigB i 2) ++ (bigB M1 2)).length = 16 := by simp [big_len]
               rw [hl_] at e_
               subst e_
               have HRp9 := hide h_
               have HYp := hide (unhide HPart u9 h_.b)
               clear h_ hl_)
            | (at_builtin; refine wpList_append_row rfl _ _ rfl (.slice sp9 16 cp9) (.slice (cutAt sp c F) 48 (c - F)) (bigB g 4 ++ bigB o 4 ++ bigB m 4 ++ bigB i 2 ++ bigB M1 2) PT rfl (unhide HRp9) rfl (unhide HYp) (by rw [unhide HPl]; simp [big_len]) ?_
               intro v_ v1 h_
               rw [unhide HPS] at h_
               obtain ⟨sq, cq, e_⟩ := h_.own.form
               rw [unhide HPL] at e_
               subst e_
               have HRq := hide h_
               have HOq : Hid (OwnV 30 (v1.alloc (.cells #[.slice sq 64 cq] 30)) w1.heap.size (.slice so i co) vs) := (unhide HS).own.below (h_.b.alloc h_.b.size _)
               have HVq : Hid (ValsAt (v1.alloc (.cells #[.slice sq 64 cq] 30)) (.slice (some ⟨v1.heap.size, 0, none⟩) 1 1) [.slice sq 64 cq]) := vals_new v1 [.slice sq 64 cq] 30
               have HBq : Hid (w1.heap.size ≤ (v1.alloc (.cells #[.slice sq 64 cq] 30)).heap.size) := Nat.le_trans (unhide HS).b.size (h_.b.alloc h_.b.size _).size
               clear h_)
            | (at_builtin; refine wpList_append_vals Ebb rfl _ _ rfl w1.heap.size (.slice so i co) (.slice (some ⟨v1.heap.size, 0, none⟩) 1 1) vs [.slice sq 64 cq] rfl (unhide HOq) rfl (unhide HVq) (by simp [Value.oneCell']) (unhide HBq) (by have := (unhide HS).len; simp; omega) ?_
               intro v_ v2 ho_ hg_ hor_
               obtain ⟨sr, cr, e_⟩ := ho_.form
               rw [List.length_append, (unhide HS).len] at e_
               have e2_ : v_ = .slice sr (i + 1) cr := e_
               subst e2_
               have HNx := hide ((unhide HS).next (unhide HRq) (unhide HPL) ho_ hg_ hor_)
               clear ho_ hg_ hor_ e_))
          refine ⟨⟨i + 1, cr, sr, _, by omega, ?_, ?_, HNx⟩, ?_⟩
          · rfl
          · simp
          · simp [intOf]; omega
        · obtain rfl : i = M := by omega
          have f2 : decide ((i : Int) < (i : Int)) = false := by simp
          have HE : Hid (FreshL w1.heap.size wy (.slice so i co) vs (recS b g o m)) := by
            refine ⟨(unhide HS).own.vals, fun k hk => (World.ownsRow.lt (unhide HS).own k hk).1, by rw [(unhide HS).len, rec_len, unhide HN, unhide HM], fun k v x hv hx => ?_⟩
            have hk : k < needs b.length := by
              have := (List.getElem?_eq_some_iff.1 hx).1
              rwa [rec_len] at this
            rw [rec_at b g o m hk] at hx
            simp only [Option.some.injEq] at hx
            subst hx
            exact ⟨((unhide HS).each k v hv).1, fun q hq => (((unhide HS).each k v hv).2 q hq).2.2⟩
          have HB := hide (unhide HS).b
          clear HS
          go_wp2
          go_ret
          exact ⟨_, _, rfl, unhide HE, unhide HB⟩
end Go.Proofs.Ytfpndphfibfdiaa
namespace Go.Proofs.Ytfpndphfibfdiaa
open Go.RowKit
theorem ListsAt.lists {B : Nat} {w : World} {x : Value} {vs : List Value} {l : List Bs} (h : ListsAt B w x vs l) : BLists w x l := ⟨vs, h.len, h.row, fun i v b h1 h2 => (h.each i v b h1 h2).1⟩
theorem take_same {la lb : List Bs} {i : Nat} (h : la.take i = lb.take i) {a b : Bs} (ha : la[i]? = some a) (hb : lb[i]? = some b) (e : a = b) : la.take (i + 1) = lb.take (i + 1) := by rw [List.take_add_one, List.take_add_one, h, ha, hb, e]
set_option maxRecDepth 100000 in
set_option maxHeartbeats 4000000 in
theorem lsame_c (w : World) (x y : Value) (la lb : List Bs) (hx : BLists w x la) (hy : BLists w y lb) (hl : ∀ b ∈ la, b.length ≤ 1099511627776) (hn : la.length ≤ 1000000) (hm : lb.length ≤ 1000000) :
    Calls Try.prog 17 #[x, y] w fun e w' => e = .returned (.bool (decide (la = lb))) ∧ Below w.heap.size w w' := by
  obtain ⟨sx, cx, rfl⟩ := hx.form
  obtain ⟨sy, cy, rfl⟩ := hy.form
  obtain ⟨n, hnn⟩ : ∃ n, la.length = n := ⟨_, rfl⟩
  obtain ⟨m, hmm⟩ : ∃ m, lb.length = m := ⟨_, rfl⟩
  have HX := hide hx
  have HY := hide hy
  have HL := hide hl
  have HN := hide hnn
  have HM := hide hmm
  rw [hnn] at HX hn ⊢
  rw [hmm] at HY hm ⊢
  by_cases hnm : n = m
  case neg =>
    have d1 : ((n : Int) != (m : Int)) = true := by simp; omega
    have e1 : decide (la = lb) = false := by
      apply decide_eq_false
      intro e
      rw [e] at hnn
      omega
    rw [e1]
    clear hx hy hl hnn hmm hnm e1
    go_enter Try.func17, Try.ntmps17
    go_wp2
    go_ret
    exact ⟨rfl, Below.refl _ _⟩
  subst hnm
  have d1 : ((n : Int) != (n : Int)) = false := by simp
  clear hx hy hl hnn hmm
  obtain ⟨D, hD⟩ : ∃ D, decide (la = lb) = D := ⟨_, rfl⟩
  rw [hD]
  have HD := hide hD
  clear hD
  go_enter Try.func17, Try.ntmps17
  go_wp2
  go_loopw [14] (fun ii wr => ∃ i : Nat, i ≤ n ∧ ii = .int .i64 (i : Int) ∧ Hid (la.take i = lb.take i) ∧ Hid (Below w.heap.size w wr)) (fun ii _ => n - (intOf ii).toNat)
  case atStart => exact ⟨0, by omega, rfl, rfl, Below.refl _ _⟩
  case round =>
    obtain ⟨i, hi, rfl, Ht, Hb⟩ := hrel
    by_cases hlt : i < n
    · have f1 : decide ((i : Int) < (n : Int)) = true := by simp; omega
      have f1n : decide (i < n) = true := by simp; omega
      have j0 : (0 : Int) ≤ (i : Int) := by omega
      have j1 : (i : Int) < (n : Int) := by omega
      obtain ⟨a, ha⟩ : ∃ a, la[i]? = some a := ⟨_, List.getElem?_eq_getElem (by have := unhide HN; omega)⟩
      obtain ⟨b, hb⟩ : ∃ a, lb[i]? = some a := ⟨_, List.getElem?_eq_getElem (by have := unhide HM; omega)⟩
      obtain ⟨g1, o1, v1, rfl, c1, b1⟩ := ((unhide HX).below (unhide Hb)).at ha
      obtain ⟨g2, o2, v2, rfl, c2, b2⟩ := ((unhide HY).below (unhide Hb)).at hb
      obtain ⟨s1, q1, rfl, _⟩ := bytes_open b1
      obtain ⟨s2, q2, rfl, _⟩ := bytes_open b2
      have Hs := hide (same_any wr _ _ a b b1 b2 (unhide HL a (List.mem_of_getElem? ha)))
      obtain ⟨A1, hA1⟩ : ∃ y, a.length = y := ⟨_, rfl⟩
      obtain ⟨A2, hA2⟩ : ∃ y, b.length = y := ⟨_, rfl⟩
      rw [hA1] at c1 Hs
      rw [hA2] at c2 Hs
      have Ha := hide ha
      have Hbb := hide hb
      clear b1 b2 hA1 hA2 ha hb
      by_cases hab : a = b
      · rw [decide_eq_true hab] at Hs
        have Hn := hide (take_same (unhide Ht) (unhide Ha) (unhide Hbb) hab)
        clear Ht hab
        go_wp2_with fail
        refine (unhide Hs).mono ?_
        rintro e w2 ⟨rfl, hb2⟩
        have Hb2 := hide ((unhide Hb).trans (hb2.mono (unhide Hb).size))
        clear hb2 Hs Hb c1 c2
        go_wp2
        refine ⟨⟨i + 1, by omega, ?_, Hn, Hb2⟩, ?_⟩
        · simp
        · simp [intOf]; omega
      · rw [decide_eq_false hab] at Hs
        have e1 : D = false := by
          rw [← unhide HD]
          apply decide_eq_false
          intro e
          have h1 := unhide Ha
          rw [e, unhide Hbb] at h1
          exact hab (Option.some.inj h1).symm
        subst e1
        clear hab Ht
        go_wp2_with fail
        refine (unhide Hs).mono ?_
        rintro e w2 ⟨rfl, hb2⟩
        have Hb2 := hide ((unhide Hb).trans (hb2.mono (unhide Hb).size))
        clear hb2 Hs Hb c1 c2
        go_wp2
        go_ret
        exact ⟨rfl, unhide Hb2⟩
    · obtain rfl : i = n := by omega
      have f1 : decide ((i : Int) < (i : Int)) = false := by simp
      have e1 : D = true := by
        rw [← unhide HD]
        apply decide_eq_true
        have h1 := unhide Ht
        rwa [List.take_of_length_le (by have := unhide HN; omega), List.take_of_length_le (by have := unhide HM; omega)] at h1
      subst e1
      clear Ht
      go_wp2
      go_ret
      exact ⟨rfl, unhide Hb⟩
theorem lists_none {B : Nat} {w : World} {v : Value} {vs : List Value} (h : ListsAt B w v vs []) : ∃ s c, v = .slice s 0 c := by
  have hl := h.len
  match vs, hl with
  | [], _ =>
    obtain ⟨sp, c, rfl, _⟩ := h.row
    exact ⟨sp, c, rfl⟩
/-- A slice of slices of bytes of one's own, which grows; its elements lie elsewhere. -/
structure GrowAt (w : World) (base : Nat) (x : Value) (l : List Bs) : Prop where
  lists : ∃ vs : List Value, vs.length = l.length ∧ OwnV 30 w base x vs ∧ ∀ (i : Nat) (v : Value) (b : Bs), vs[i]? = some v → l[i]? = some b → BytesAt w v b ∧ ∀ k, b ≠ [] → v.ownBlock = some k → k < base
theorem GrowAt.read {w : World} {base : Nat} {x : Value} {l : List Bs} (h : GrowAt w base x l) : BLists w x l := by
  obtain ⟨vs, h1, h2, h3⟩ := h.lists
  exact ⟨vs, h1, h2.vals, fun i v b e1 e2 => (h3 i v b e1 e2).1⟩
theorem GrowAt.form {w : World} {base : Nat} {x : Value} {l : List Bs} (h : GrowAt w base x l) : ∃ s c, x = .slice s l.length c := h.read.form
theorem grow_nil (w : World) (base : Nat) : GrowAt w base (.slice none 0 0) [] := ⟨⟨[], rfl, own_nil 30 w base, fun i v b h => by simp at h⟩⟩
theorem GrowAt.aside {S : Set_} {a b : World} {base : Nat} {x : Value} {l : List Bs} (h : GrowAt a base x l) (hb : Aside S a b) (hx : ∀ k, x.ownBlock = some k → ¬ S k) (hS : ∀ k, S k → base ≤ k) : GrowAt b base x l := by
  obtain ⟨vs, h1, h2, h3⟩ := h.lists
  refine ⟨⟨vs, h1, h2.aside hb hx, fun i v c e1 e2 => ?_⟩⟩
  obtain ⟨h4, h5⟩ := h3 i v c e1 e2
  refine ⟨ValsAt.beside h4 hb fun hne k hk hSk => ?_, h5⟩
  have := h5 k (by intro e; rw [e] at hne; simp at hne) hk
  have := hS k hSk
  omega
theorem GrowAt.below {a b : World} {base : Nat} {x : Value} {l : List Bs} (h : GrowAt a base x l) (hb : Below a.heap.size a b) : GrowAt b base x l := h.aside (S := none_) (Aside.of_below hb) (fun _ _ h => h) fun _ h => h.elim
theorem GrowAt.lt {w : World} {base : Nat} {x : Value} {l : List Bs} (h : GrowAt w base x l) : ∀ k, x.ownBlock = some k → base ≤ k ∧ k < w.heap.size := by
  obtain ⟨vs, h1, h2, _⟩ := h.lists
  exact World.ownsRow.lt h2
end Go.Proofs.Ytfpndphfibfdiaa
namespace Go.Proofs.Ytfpndphfibfdiaa
open Go.RowKit
/-- No sector bears a generation above G. -/
def GenB (G : Nat) (l : List Bs) : Prop := ∀ x ∈ l, x.length = 64 ∧ genF x ≤ G
theorem GenB.mono {G G' : Nat} {l : List Bs} (h : GenB G l) (hG : G ≤ G') : GenB G' l := fun x hx => ⟨(h x hx).1, Nat.le_trans (h x hx).2 hG⟩
theorem GenB.upto {G : Nat} {l : List Bs} (h : GenB G l) : Upto (G + 1) 0 l := fun x hx => ⟨(h x hx).1, fun hp => by have h1 := hp.1; have h2 := (h x hx).2; omega⟩
theorem rest_fresh {s : PS} {a n G : Nat} (hok : s.Ok) (hl : s.loose = []) (hd : s.down = false) (hf : a + n ≤ s.safe.length) (hg : G + 1 < 2147483648) (h : GenB G (W.partOf s.safe a n)) : Rest (G + 1) a n 0 s [] := by
  refine ⟨hok, hl, hd, hf, ?_, h.upto⟩
  show oneP _ _ _ _ = none
  refine one_none (fun x hx => (h x hx).1) fun b o hB => ?_
  obtain ⟨x, e1, e2, e3⟩ := begins_op (by omega) (by omega) hB
  have hp := needs_pos b.length
  have := (h.upto x (List.mem_of_getElem? e1)).2 (by rw [e3]; exact part_isPart (by omega) hB.op (by omega) (by omega) hB.big (by omega))
  have := hB.low
  omega
theorem LogI.rest0 {L : LS} {s : PS} (h : LogI L s) : Rest L.gen L.start L.size L.opening s L.rs := ⟨h.ok, h.loose, h.down, h.fit, h.st, h.all⟩
theorem append_safe {L : LS} {s : PS} {b : Bs} (h : LogI L s) (hs : L.shut = false) (hl : s.left < 0) (hb : b.length ≤ 65536) (hr : usedR L.rs + needs b.length ≤ L.size) : (appendP L s b).safe = applyL s.safe (W.placed (L.start + usedR L.rs) (nextS L b)) := by
  have hlen : (nextS L b).length = needs b.length := rec_len _ _ _ _
  have hfit := h.fit
  have hput : putL L s b = (⟨applyL s.safe (s.loose ++ W.placed (L.start + usedR L.rs) (nextS L b)), [], W.leftBy s.left (needs b.length + 1), false⟩, 0) := by
    unfold putL
    rw [W.put_ok h.down (Or.inl hl) (next_64 L b) (by rw [hlen]; omega), hlen]
  rw [h.loose, List.nil_append] at hput
  unfold appendP
  rw [hs, hput, if_neg (by decide), if_neg (by omega), if_neg (by omega)]
theorem append_gen {L : LS} {s : PS} {b : Bs} {G : Nat} (h : LogI L s) (hs : L.shut = false) (hl : s.left < 0) (hb : b.length ≤ 65536) (hr : usedR L.rs + needs b.length ≤ L.size) (hG : L.gen ≤ G) (hB : GenB G (W.partOf s.safe L.start L.size)) : GenB G (W.partOf (appendP L s b).safe L.start L.size) := by
  have hlen : (nextS L b).length = needs b.length := rec_len _ _ _ _
  rw [append_safe h hs hl hb hr, W.sync_part h.fit (by rw [hlen]; omega)]
  intro x hx
  rcases List.mem_append.1 hx with hx | hx
  · exact hB x (List.mem_of_mem_take hx)
  · obtain ⟨i, hi⟩ := List.getElem?_of_mem hx
    have hlt : i < ((W.partOf s.safe L.start L.size).drop (usedR L.rs)).length := by
      have := (List.getElem?_eq_some_iff.1 hi).1
      rwa [mix_len] at this
    by_cases hc : i < (nextS L b).length
    · rw [mix_new hlt hc rfl] at hi
      rw [hlen] at hc
      unfold nextS at hi
      rw [rec_at _ _ _ _ hc] at hi
      have := Option.some.inj hi
      subst this
      have hcn := h.count
      have hgn := h.gen
      exact ⟨part_len _ _ _ hc, by rw [(part_fields (by omega) h.op (by omega) hb hc).1]; exact hG⟩
    · rw [mix_old hlt (by omega)] at hi
      exact hB x (List.mem_of_mem_drop (List.mem_of_getElem? hi))
theorem append_length {L : LS} {s : PS} {b : Bs} (h : LogI L s) (hs : L.shut = false) (hl : s.left < 0) (hb : b.length ≤ 65536) (hr : usedR L.rs + needs b.length ≤ L.size) : (appendP L s b).safe.length = s.safe.length := by rw [append_safe h hs hl hb hr, apply_len]
/-- A slice of slices of slices of bytes. -/
structure LLAt (w : World) (x : Value) (vs : List Value) (ls : List (List Bs)) : Prop where
  row : ValsAt w x vs
  len : vs.length = ls.length
  each : ∀ (i : Nat) (v : Value) (l : List Bs), vs[i]? = some v → ls[i]? = some l → BLists w v l
theorem BLists.old {w : World} {s : Option Addr} {n c : Nat} {l : List Bs} (h : BLists w (.slice s n c) l) {i : Nat} {b : Bs} (hb : l[i]? = some b) : ∃ g o v, s = some ⟨g, o, none⟩ ∧ w.cell? ⟨g, o + i, none⟩ = some v ∧ BytesAt w v b ∧ ∀ k, b ≠ [] → v.ownBlock = some k → k < w.heap.size := by
  obtain ⟨g, o, v, h1, h2, h3⟩ := h.at hb
  exact ⟨g, o, v, h1, h2, h3, fun k hne hk => ValsAt.old h3 (by simpa using hne) k hk⟩
theorem grow_push {w w' : World} {base : Nat} {x x' : Value} {l : List Bs} {v : Value} {b : Bs} (hv : BytesAt w v b) (hvb : ∀ k, b ≠ [] → v.ownBlock = some k → k < base) {vs : List Value} (hvs : ∃ _ : vs.length = l.length, OwnV 30 w base x vs ∧ ∀ (i : Nat) (u : Value) (c : Bs), vs[i]? = some u → l[i]? = some c → BytesAt w u c ∧ ∀ k, c ≠ [] → u.ownBlock = some k → k < base)
    (ho : OwnV 30 w' base x' (vs ++ [v])) (hg : Aside (fun k => x.ownBlock = some k) w w') : GrowAt w' base x' (l ++ [b]) := by
  obtain ⟨h1, h2, h3⟩ := hvs
  have hxb : ∀ k, x.ownBlock = some k → base ≤ k := fun k hk => (World.ownsRow.lt h2 k hk).1
  have hkeep : ∀ (u : Value) (c : Bs), BytesAt w u c → (∀ k, c ≠ [] → u.ownBlock = some k → k < base) → BytesAt w' u c := fun u c h4 h5 => ValsAt.beside h4 hg fun hne k hk hxk => by
    have := h5 k (by intro e; rw [e] at hne; simp at hne) hk
    have := hxb k hxk
    omega
  refine ⟨⟨vs ++ [v], by simp [h1], ho, fun i u c e1 e2 => ?_⟩⟩
  by_cases hi : i < vs.length
  · rw [List.getElem?_append_left hi] at e1
    rw [List.getElem?_append_left (by omega)] at e2
    obtain ⟨h4, h5⟩ := h3 i u c e1 e2
    exact ⟨hkeep u c h4 h5, h5⟩
  · rw [List.getElem?_append_right (by omega)] at e1 e2
    rw [h1] at e1
    match hq : i - l.length, e1, e2 with
    | 0, e1, e2 =>
      simp only [List.getElem?_cons_zero, Option.some.injEq] at e1 e2
      subst e1
      subst e2
      exact ⟨hkeep _ _ hv hvb, hvb⟩
    | j + 1, e1, e2 => simp at e1
/-- Two logs side by side, as plain words. -/
structure GnI (g sz : Nat) (s : PS) (L : LS) (want : List Bs) : Prop where
  log : LogI L s
  shut : L.shut = false
  gen : L.gen = g + 1
  start : L.start = 2
  size : L.size = sz
  rs : L.rs.map (·.1) = want
  gb : GenB (g + 1) (W.partOf s.safe 2 sz)
  left : s.left < 0
  len : s.safe.length = 64
  op : L.opening = 1
theorem GnI.yes {g sz : Nat} {s : PS} {L : LS} {want : List Bs} {b : Bs} (h : GnI g sz s L want) (hb : b.length ≤ 65536) (hr : usedR L.rs + needs b.length ≤ sz) : appendE L s b = 0 ∧ GnI g sz (appendP L s b) (appendL L s b) (want ++ [b]) := by
  have hr' : usedR L.rs + needs b.length ≤ L.size := by rw [h.size]; exact hr
  obtain ⟨e1, e2, e3, e4⟩ := append_yes h.log h.shut h.left hb hr'
  refine ⟨e1, ⟨e2, by rw [e3], by rw [e3]; exact h.gen, by rw [e3]; exact h.start, by rw [e3]; exact h.size, ?_, ?_, e4, by rw [append_length h.log h.shut h.left hb hr']; exact h.len, by rw [e3]; exact h.op⟩⟩
  · rw [e3, List.map_append, h.rs]; rfl
  · have := append_gen (G := g + 1) h.log h.shut h.left hb hr' (by rw [h.gen]; exact Nat.le_refl _) (by rw [h.start, h.size]; exact h.gb)
    rwa [h.start, h.size] at this
end Go.Proofs.Ytfpndphfibfdiaa
namespace Go.Proofs.Ytfpndphfibfdiaa
theorem write_length (s : PS) (a : Int) (b : Bs) : (writeS s a b).safe.length = s.safe.length := by unfold writeS; split <;> (try split) <;> (try split) <;> rfl
theorem sync_length (s : PS) : (syncS s).safe.length = s.safe.length := by
  unfold syncS
  split
  · rfl
  · split
    · rfl
    · exact apply_len _ _
theorem put_length : ∀ (xs : List Bs) (s : PS) (a : Nat), (W.putAll s a xs).1.safe.length = s.safe.length
  | [], s, a => sync_length s
  | x :: xs, s, a => by
    unfold W.putAll
    split
    · rw [put_length xs, write_length]
    · exact write_length _ _ _
theorem app_length (L : LS) (s : PS) (b : Bs) : (appendP L s b).safe.length = s.safe.length := by
  unfold appendP
  split
  · rfl
  · split
    · rfl
    · split
      · rfl
      · exact put_length _ _ _
theorem app_fields (L : LS) (s : PS) (b : Bs) : (appendL L s b).gen = L.gen ∧ (appendL L s b).start = L.start ∧ (appendL L s b).size = L.size ∧ (appendL L s b).opening = L.opening := by
  unfold appendL
  split
  · exact ⟨rfl, rfl, rfl, rfl⟩
  · split
    · exact ⟨rfl, rfl, rfl, rfl⟩
    · split
      · exact ⟨rfl, rfl, rfl, rfl⟩
      · split <;> exact ⟨rfl, rfl, rfl, rfl⟩
/-- A life that wasn't cut off so far. -/
structure KA (sz T : Nat) (s : PS) (L : LS) (sure : List Bs) : Prop where
  log : LogI L s
  shut : L.shut = false
  gen : L.gen = 7
  start : L.start = 9
  size : L.size = sz
  rs : L.rs.map (·.1) = sure
  op : L.opening ≤ T + 1
  len : s.safe.length = 120
/-- A life that was cut off while b was written. -/
structure KB (sz T : Nat) (keep : List Bool) (s : PS) (L : LS) (sure : List Bs) (b : Bs) (k : Nat) : Prop where
  shut : L.shut = true
  le : k ≤ needs b.length
  loose : s.loose.length = k
  small : b.length ≤ 1000
  rest : ∃ rs o, rs.map (·.1) = sure ∧ Rest 7 9 sz (T + 1) (reviveS s keep) (if k = needs b.length ∧ WholeK k keep then rs ++ [(b, o)] else rs)
  len : (reviveS s keep).safe.length = 120
theorem KA.app {sz T : Nat} {s : PS} {L : LS} {sure : List Bs} (h : KA sz T s L sure) (b : Bs) (hb : b.length ≤ 1000) (keep : List Bool) :
    (appendE L s b = 52 ∧ appendL L s b = L ∧ appendP L s b = s) ∨ (appendE L s b = 0 ∧ KA sz T (appendP L s b) (appendL L s b) (sure ++ [b])) ∨ (appendE L s b = 50 ∧ ∃ k, KB sz T keep (appendP L s b) (appendL L s b) sure b k) := by
  by_cases hr : usedR L.rs + needs b.length ≤ L.size
  case neg => exact Or.inl (append_full h.shut (by omega) (by omega))
  obtain ⟨f1, f2, f3, f4⟩ := app_fields L s b
  by_cases hl : s.left < 0 ∨ (needs b.length : Int) + 1 ≤ s.left
  · obtain ⟨e1, e2, e3, e4⟩ := append_ok h.log h.shut (by omega) hr hl
    exact Or.inr (Or.inl ⟨e1, ⟨e2, e4, f1.trans h.gen, f2.trans h.start, f3.trans h.size, by rw [e3, List.map_append, h.rs]; rfl, by rw [f4]; exact h.op, by rw [app_length]; exact h.len⟩⟩)
  · obtain ⟨k, hk⟩ : ∃ k : Nat, s.left = (k : Int) := ⟨s.left.toNat, by omega⟩
    have hkn : k ≤ needs b.length := by omega
    obtain ⟨e1, e2, e3, e4⟩ := cut_rest h.log h.shut (by omega) hr hk hkn keep
    rw [h.gen, h.start, h.size] at e4
    refine Or.inr (Or.inr ⟨e1, k, ⟨e2, hkn, e3, hb, ⟨L.rs, L.opening, h.rs, ⟨e4.ok, e4.loose, e4.down, e4.fit, e4.st, e4.up.mono h.op⟩⟩, ?_⟩⟩)
    show (applyL _ _).length = 120
    rw [apply_len, app_length]; exact h.len
theorem KA.done {sz T : Nat} {s : PS} {L : LS} {sure : List Bs} (h : KA sz T s L sure) (keep : List Bool) : Rest 7 9 sz (T + 1) (reviveS s keep) L.rs ∧ L.rs.map (·.1) = sure ∧ (reviveS s keep).safe.length = 120 ∧ s.loose = [] := by
  have e4 := h.log.rest keep
  rw [h.gen, h.start, h.size] at e4
  refine ⟨⟨e4.ok, e4.loose, e4.down, e4.fit, e4.st, e4.up.mono h.op⟩, h.rs, ?_, h.log.loose⟩
  show (applyL _ _).length = 120
  rw [apply_len]; exact h.len
theorem Rest.ka {sz T : Nat} {s : PS} {rs : List (Bs × Nat)} (h : Rest 7 9 sz T s rs) (hl : s.safe.length = 120) (hT : T ≤ 1000) : KA sz T s (openL s 9 sz 7) (rs.map (·.1)) ∧ (openL s 9 sz 7).rs = rs := by
  obtain ⟨e1, e2, e3⟩ := h.open_ (by omega) (by omega) (by omega)
  exact ⟨⟨e3, rfl, rfl, rfl, rfl, by rw [e1], e2, hl⟩, e1⟩
theorem KA.arm {sz T : Nat} {s : PS} {L : LS} {sure : List Bs} (h : KA sz T s L sure) {k : Int} (hk : k ≤ 9223372036854775807) : KA sz T (armS s k) L sure := ⟨h.log.arm hk, h.shut, h.gen, h.start, h.size, h.rs, h.op, h.len⟩
/-- A turn, as plain data. -/
structure TurnP where
  list : List Bs
  arm : Int
  keep : List Bool
end Go.Proofs.Ytfpndphfibfdiaa
namespace Go.Proofs.Ytfpndphfibfdiaa
open Go.RowKit
/-- The slice of turns. -/
def TurnsAt (w : World) (x : Value) (ts : List TurnP) : Prop :=
  ∃ sp c, x = .slice sp ts.length c ∧ (ts ≠ [] → ∃ b o, sp = some ⟨b, o, none⟩ ∧ ∀ (i : Nat) (t : TurnP), ts[i]? = some t → -9223372036854775808 ≤ t.arm ∧ t.arm ≤ 9223372036854775807 ∧ t.list.length ≤ 9223372036854775807 ∧ ∃ lv kv, w.cell? ⟨b, o + i * 3, none⟩ = some lv ∧ w.cell? ⟨b, o + i * 3 + 1, none⟩ = some (.int .i64 t.arm) ∧ w.cell? ⟨b, o + i * 3 + 2, none⟩ = some kv ∧ BLists w lv t.list ∧ ValsAt w kv (t.keep.map .bool))
section
variable {PAt : Set_ → Set_ → World → Value → PS → Prop} {LAt : Set_ → Set_ → World → Value → Value → LS → Prop} (HP : Plate PAt) (HW : Wal PAt LAt)
/-- The plate, the turn's own copy in the block V, the records that are sure. -/
structure Calm (PAt : Set_ → Set_ → World → Value → PS → Prop) (w wr : World) (p : Value) (V : Nat) (cs : List Value) (S R : Set_) (s : PS) (sv : Value) (sure : List Bs) : Prop where
  on : On PAt w wr p S R s
  row : wr.heap[V]? = some (.cells cs.toArray 41 (0, 0))
  offV : ¬ S V ∧ ¬ R V
  vge : w.heap.size ≤ V
  grow : GrowAt wr w.heap.size sv sure
  offG : ∀ k, sv.ownBlock = some k → ¬ S k ∧ ¬ R k
structure Life (PAt : Set_ → Set_ → World → Value → PS → Prop) (LAt : Set_ → Set_ → World → Value → Value → LS → Prop) (w wr : World) (p l : Value) (V : Nat) (cs : List Value) (S R S2 R2 : Set_) (s : PS) (L : LS) (sv : Value) (sure : List Bs) : Prop where
  lg : Lg PAt LAt w wr p l S R S2 R2 s L
  row : wr.heap[V]? = some (.cells cs.toArray 41 (0, 0))
  offV : Off S R S2 R2 V
  vge : w.heap.size ≤ V
  grow : GrowAt wr w.heap.size sv sure
  offG : ∀ k, sv.ownBlock = some k → Off S R S2 R2 k
variable {w wr w' : World} {p l sv : Value} {V : Nat} {cs : List Value} {S R S2 R2 : Set_} {s : PS} {L : LS} {sure : List Bs}
theorem blk_lt {w : World} {B : Nat} {o : Obj} (h : w.heap[B]? = some o) : B < w.heap.size := (Array.getElem?_eq_some_iff.1 h).1
theorem Life.calm (h : Life PAt LAt w wr p l V cs S R S2 R2 s L sv sure) : Calm PAt w wr p V cs S R s sv sure := ⟨h.lg.on, h.row, h.offV.1, h.vge, h.grow, fun k hk => (h.offG k hk).1⟩
include HP in
theorem Calm.below (h : Calm PAt w wr p V cs S R s sv sure) (hb : Below wr.heap.size wr w') : Calm PAt w w' p V cs S R s sv sure :=
  ⟨h.on.below HP hb, (hb.block V (blk_lt h.row)).trans h.row, h.offV, h.vge, h.grow.below hb, h.offG⟩
include HP HW in
theorem Life.below (h : Life PAt LAt w wr p l V cs S R S2 R2 s L sv sure) (hb : Below wr.heap.size wr w') : Life PAt LAt w w' p l V cs S R S2 R2 s L sv sure :=
  ⟨h.lg.below HP HW hb, (hb.block V (blk_lt h.row)).trans h.row, h.offV, h.vge, h.grow.below hb, h.offG⟩
theorem Calm.plate (h : Calm PAt w wr p V cs S R s sv sure) {S' R' : Set_} {s' : PS} (hp : PAt S' R' w' p s') (hS : ∀ k, S' k → S k ∨ wr.heap.size ≤ k) (hR : ∀ k, R' k → R k ∨ wr.heap.size ≤ k) (ha : Aside S wr w') : Calm PAt w w' p V cs S' R' s' sv sure := by
  have hoff : ∀ k, k < wr.heap.size → ¬ S k ∧ ¬ R k → ¬ S' k ∧ ¬ R' k := fun k hk ho => ⟨fun h1 => by rcases hS k h1 with h2 | h2; exact ho.1 h2; omega, fun h1 => by rcases hR k h1 with h2 | h2; exact ho.2 h2; omega⟩
  exact ⟨h.on.call hp hS hR ha, (ha.block V (blk_lt h.row) h.offV.1).trans h.row, hoff V (blk_lt h.row) h.offV, h.vge, h.grow.aside ha (fun k hk => (h.offG k hk).1) (fun k hk => h.on.ge k (Or.inl hk)), fun k hk => hoff k (h.grow.lt k hk).2 (h.offG k hk)⟩
include HW in
theorem Life.plate (h : Life PAt LAt w wr p l V cs S R S2 R2 s L sv sure) {S' R' : Set_} {s' : PS} (hp : PAt S' R' w' p s') (hS : ∀ k, S' k → S k ∨ wr.heap.size ≤ k) (hR : ∀ k, R' k → R k ∨ wr.heap.size ≤ k) (ha : Aside S wr w') : Life PAt LAt w w' p l V cs S' R' S2 R2 s' L sv sure := by
  have hc := h.calm.plate hp hS hR ha
  exact ⟨h.lg.plate HW hp hS hR ha, hc.row, ⟨hc.offV, h.offV.2⟩, h.vge, hc.grow, fun k hk => ⟨hc.offG k hk, (h.offG k hk).2⟩⟩
theorem Life.app (h : Life PAt LAt w wr p l V cs S R S2 R2 s L sv sure) {S' R' S2' R2' : Set_} {s' : PS} {L' : LS} (hl : Lg PAt LAt w w' p l S' R' S2' R2' s' L') (ha : Aside (fun k => S k ∨ S2 k) wr w') (hla : Later S R S2 R2 S' R' S2' R2' wr.heap.size) : Life PAt LAt w w' p l V cs S' R' S2' R2' s' L' sv sure :=
  ⟨hl, (ha.block V (blk_lt h.row) (fun h1 => h1.elim h.offV.1.1 h.offV.2.1)).trans h.row, hla V (blk_lt h.row) h.offV, h.vge, h.grow.aside ha (fun k hk h1 => h1.elim (h.offG k hk).1.1 (h.offG k hk).2.1) (fun k hk => hk.elim (fun h1 => h.lg.ge k (Or.inl h1)) fun h1 => h.lg.ge2 k (Or.inl h1)), fun k hk => hla k (h.grow.lt k hk).2 (h.offG k hk)⟩
theorem Calm.opened (h : Calm PAt w wr p V cs S R s sv sure) (hl : Lg PAt LAt w w' p l S R S2 R2 s L) (hb : Below wr.heap.size wr w') (hn : ∀ k, S2 k ∨ R2 k → wr.heap.size ≤ k) : Life PAt LAt w w' p l V cs S R S2 R2 s L sv sure := by
  have hoff : ∀ k, k < wr.heap.size → ¬ S2 k ∧ ¬ R2 k := fun k hk => ⟨fun h1 => by have := hn k (Or.inl h1); omega, fun h1 => by have := hn k (Or.inr h1); omega⟩
  exact ⟨hl, (hb.block V (blk_lt h.row)).trans h.row, ⟨h.offV, hoff V (blk_lt h.row)⟩, h.vge, h.grow.below hb, fun k hk => ⟨h.offG k hk, hoff k (h.grow.lt k hk).2⟩⟩
/-- Other records are sure now, in a row that is new. -/
theorem Life.anew (h : Life PAt LAt w wr p l V cs S R S2 R2 s L sv sure) {sv' : Value} {sure' : List Bs} (hg : GrowAt wr w.heap.size sv' sure') (ho : ∀ k, sv'.ownBlock = some k → Off S R S2 R2 k) : Life PAt LAt w wr p l V cs S R S2 R2 s L sv' sure' := ⟨h.lg, h.row, h.offV, h.vge, hg, ho⟩
/-- What append(append([][]byte{}, sure...), b) gives. -/
theorem grow_anew {w0 w6 w8 : World} {sv8 : Value} {sure : List Bs} {us : List Value} {v : Value} {b : Bs} (h1 : us.length = sure.length) (h3 : ∀ (i : Nat) (u : Value) (c : Bs), us[i]? = some u → sure[i]? = some c → BytesAt w6 u c ∧ ∀ k, c ≠ [] → u.ownBlock = some k → k < w0.heap.size) (hv : BytesAt w6 v b) (hvb : ∀ k, b ≠ [] → v.ownBlock = some k → k < w0.heap.size) (h0 : w0.heap.size ≤ w6.heap.size)
    (ho : OwnV 30 w8 w6.heap.size sv8 (us ++ [v])) (hb : Below w6.heap.size w6 w8) : GrowAt w8 w0.heap.size sv8 (sure ++ [b]) := by
  refine ⟨⟨us ++ [v], by simp [h1], ho.mono h0, fun i u c e1 e2 => ?_⟩⟩
  by_cases hi : i < us.length
  · rw [List.getElem?_append_left hi] at e1
    rw [List.getElem?_append_left (by omega)] at e2
    obtain ⟨h4, h5⟩ := h3 i u c e1 e2
    exact ⟨h4.below hb, h5⟩
  · rw [List.getElem?_append_right (by omega)] at e1 e2
    rw [h1] at e1
    match hq : i - sure.length, e1, e2 with
    | 0, e1, e2 =>
      simp only [List.getElem?_cons_zero, Option.some.injEq] at e1 e2
      subst e1
      subst e2
      exact ⟨hv.below hb, hvb⟩
    | j + 1, e1, e2 => simp at e1
theorem ownbb_empty (W : World) : OwnV 30 (W.alloc (.cells #[] 30)) W.heap.size (.slice (some ⟨W.heap.size, 0, none⟩) 0 0) [] := ⟨rfl, Or.inr ⟨W.heap.size, 0, #[], rfl, Nat.le_refl _, heap_alloc_new W _, Nat.le_refl _, by simp [maxLen], rfl, rfl⟩⟩
end
end Go.Proofs.Ytfpndphfibfdiaa
