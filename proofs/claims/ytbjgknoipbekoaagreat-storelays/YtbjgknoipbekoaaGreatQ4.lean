/-
  The walk of the reference's Sectors (layer 14).
  A sector that is read.
  Maps of sectors in memory, as functions; what the operations do to them.
  The landed plate: its content's put.
-/
import Derived.Test.YtbjgknoipbekoaaGreatQ3
import Derived.Test.YtbjgknoipbekoaaGreatQ2
import Derived.MapKept
import Derived.ChangeKeysEq
import Derived.Maps.OwnSet
import Derived.Great.BuildSlice
import Derived.Deep.Cut
namespace Go.Proofs.YtbjgknoipbekoaaGreat
open Go.RowKit
theorem one_zero (W : World) : BytesAt (W.alloc (.cells #[.int .u8 0] 5)) (.slice (some ⟨W.heap.size, 0, none⟩) 1 1) [0] := bytes_new W [0]
/-- What stands in the second loop of Sectors. -/
structure SecI (b : Bs) (g o m : Nat) (w1 wr : World) (bo ov : Value) (i : Nat) (vs : List Value) : Prop where
  len : vs.length = i
  own : OwnV 23 wr w1.heap.size ov vs
  each : ∀ (k : Nat) (v : Value), vs[k]? = some v → BytesAt wr v (partS b g o m k) ∧ (∀ q, v.ownBlock = some q → ov.ownBlock ≠ some q ∧ q < wr.heap.size ∧ w1.heap.size ≤ q)
  body : BytesAt wr bo (bodyOf b)
  bap : ∀ q, bo.ownBlock = some q → ov.ownBlock ≠ some q ∧ q < wr.heap.size
  b : Below w1.heap.size w1 wr
theorem SecI.next {b : Bs} {g o m : Nat} {w1 wr w3 w5 : World} {bo ov v' s : Value} {i : Nat} {vs : List Value} {T : TypeId} (h : SecI b g o m w1 wr bo ov i vs) (hs : Row wr w3 s (partS b g o m i)) (hsl : (partS b g o m i).length = 64)
    (ho : OwnV 23 w5 w1.heap.size v' (vs ++ [s])) (hg : (w3.alloc (.cells #[s] T)).grownBy w5 ov.ownBlock) (hor : v'.ownBlock = ov.ownBlock ∨ v'.ownBlock = some (w3.alloc (.cells #[s] T)).heap.size) : SecI b g o m w1 w5 bo v' (i + 1) (vs ++ [s]) := by
  have hb4 : Below wr.heap.size wr (w3.alloc (.cells #[s] T)) := hs.b.alloc hs.b.size _
  have hs4 : (w3.alloc (.cells #[s] T)).heap.size = w3.heap.size + 1 := by simp
  have hb3 : Below w3.heap.size w3 (w3.alloc (.cells #[s] T)) := (Below.refl _ _).alloc (Nat.le_refl _) _
  obtain ⟨w4, hw4⟩ : ∃ x, w3.alloc (.cells #[s] T) = x := ⟨_, rfl⟩
  rw [hw4] at hg hor hb4 hs4 hb3
  have hlt : ∀ q, ov.ownBlock = some q → q < wr.heap.size := fun q hq => (World.ownsRow.lt h.own q hq).2
  have hA : Aside (fun k => ov.ownBlock = some k) w4 w5 := Aside.of_grown hg fun k hk => hk
  have hsz := hs.b.size
  have h5 := hg.size
  have hap : ∀ q, q < w4.heap.size → ov.ownBlock ≠ some q → v'.ownBlock ≠ some q := fun q hq hn e => by
    rcases hor with h1 | h1
    · exact hn (h1 ▸ e)
    · rw [h1] at e; simp only [Option.some.injEq] at e; omega
  have hsb : ∀ q, s.ownBlock = some q → wr.heap.size ≤ q ∧ q < w3.heap.size := fun q hq => World.ownsRow.lt hs.own q hq
  refine ⟨by rw [List.length_append, h.len]; rfl, ho, fun k v hv => ?_, (h.body.below hb4).aside hA fun q hq hS => (h.bap q hq).1 hS, fun q hq => ?_, ?_⟩
  · by_cases hk : k < vs.length
    · rw [List.getElem?_append_left hk] at hv
      obtain ⟨e1, e2⟩ := h.each k v hv
      refine ⟨(e1.below hb4).aside hA fun q hq hS => (e2 q hq).1 hS, fun q hq => ?_⟩
      have := (e2 q hq).2.1
      have := hb4.size
      exact ⟨hap q (by omega) (e2 q hq).1, by omega, (e2 q hq).2.2⟩
    · rw [List.getElem?_append_right (by omega)] at hv
      match hkk : k - vs.length, hv with
      | 0, hv =>
        simp only [List.getElem?_cons_zero, Option.some.injEq] at hv
        subst hv
        have hki : k = i := by have := h.len; omega
        subst hki
        refine ⟨(hs.bytes.below hb3).aside hA fun q hq hS => ?_, fun q hq => ?_⟩
        · have := hlt q hS; have := (hsb q hq).1; omega
        · have h1 := hsb q hq
          have h2 := h.b.size
          exact ⟨hap q (by omega) (fun e => by have := hlt q e; omega), by omega, by omega⟩
      | j + 1, hv => simp at hv
  · have := (h.bap q hq).2
    have := hb4.size
    exact ⟨hap q (by omega) (h.bap q hq).1, by omega⟩
  · have h1 : Below w1.heap.size w1 w4 := h.b.trans (hb4.mono h.b.size)
    exact h1.trans (hA.below (Nat.le_trans h.b.size hb4.size) fun k hk => (World.ownsRow.lt h.own k hk).1)
set_option maxRecDepth 100000 in
set_option maxHeartbeats 8000000 in
theorem rsectors_c (w : World) (x : Value) (b : Bs) (g o m : Nat) (hx : BytesAt w x b) (hb : b.length ≤ 65536) (hg : g ≤ 4294967296) (ho : o ≤ 4294967296) (hm : m ≤ 4294967296) :
    Calls Tryz.prog 77 #[x, .int .i64 (g : Int), .int .i64 (o : Int), .int .i64 (m : Int)] w fun e w' => ∃ v vs, e = .returned v ∧ FreshL w.heap.size w' v vs (recS b g o m) ∧ Below w.heap.size w w' := by
  obtain ⟨sx, cx, rfl, _⟩ := bytes_open hx
  obtain ⟨N, hN⟩ : ∃ N, b.length = N := ⟨_, rfl⟩
  obtain ⟨M, hM⟩ : ∃ M, needs N = M := ⟨_, rfl⟩
  have hMb : M ≤ 1366 := by rw [← hM]; exact needs_most (by omega)
  have hM1 : 1 ≤ M := by rw [← hM]; exact needs_pos _
  have hfit := needs_fit N
  rw [hM] at hfit
  have HX := hide hx
  have HN := hide hN
  have HM := hide hM
  have Hn := hide (needs_c w N (by omega))
  rw [hM] at Hn
  rw [hN]
  clear hx hN hM
  go_enter Tryz.func77, Tryz.ntmps77
  go_wp2_with fail
  refine (unhide Hn).mono ?_
  rintro e w1 ⟨rfl, hw⟩
  obtain rfl := hw
  clear Hn
  have Hb := hide (big_any w1 N 4 (by omega) (by omega))
  go_wp2_with fail
  refine (unhide Hb).mono ?_
  rintro e w2 ⟨v2, rfl, h2⟩
  obtain ⟨s2, c2, e2⟩ := h2.own.form
  rw [big_len] at e2
  subst e2
  have HR2 := hide h2
  clear h2 Hb
  have Hj := hide (join_any w2 (.slice s2 4 c2) _ (bigB N 4) b (unhide HR2).bytes ((unhide HX).below (unhide HR2).b) (by rw [big_len]; omega))
  rw [unhide HN] at Hj
  go_wp2_with fail
  refine (unhide Hj).mono ?_
  rintro e w3 ⟨v3, rfl, h3⟩
  obtain ⟨s3, c3, e3⟩ := h3.own.form
  rw [List.length_append, big_len, unhide HN] at e3
  subst e3
  have HR3 := hide (h3.up (unhide HR2).b)
  clear h3 Hj HR2
  go_wp2
  go_loopw [10] (fun bb wr => ∃ (j c : Nat) (sp : Option Addr), 4 + N + j ≤ 48 * M ∧ bb = .slice sp (4 + N + j) c ∧ Hid (Row w1 wr (.slice sp (4 + N + j) c) (bigB N 4 ++ b ++ List.replicate j 0))) (fun bb _ => 48 * M - (match bb with | .slice _ n _ => n | _ => 0))
  case atStart => exact ⟨0, c3, s3, by omega, rfl, by show Row _ _ _ _; rw [List.replicate_zero, List.append_nil]; exact unhide HR3⟩
  case round =>
    clear HR3
    obtain ⟨j, c, sp, hj, rfl, HR⟩ := hrel
    obtain ⟨LL, hLL⟩ : ∃ y, 4 + N + j = y := ⟨_, rfl⟩
    obtain ⟨TT, hTT⟩ : ∃ y, 48 * M = y := ⟨_, rfl⟩
    have eTT : (48 : Int) * (M : Int) = (TT : Int) := by omega
    rw [hLL] at HR ⊢
    by_cases hlt : LL < TT
    · have f1 : decide ((LL : Int) < (TT : Int)) = true := by simp; omega
      have f1n : decide (LL < TT) = true := by simp; omega
      have HL : Hid ((bigB N 4 ++ b ++ List.replicate j 0).length = LL) := by show _ = _; simp only [List.length_append, big_len, List.length_replicate]; have := unhide HN; omega
      have HR1 := hide ((unhide HR).lit (.cells #[.int .u8 0] 5))
      have HZ := hide (one_zero wr)
      have HN2 : Hid (bigB N 4 ++ b ++ List.replicate j 0 ++ [0] = bigB N 4 ++ b ++ List.replicate (j + 1) 0) := by show _ = _; rw [List.replicate_succ', List.append_assoc (bigB N 4 ++ b)]
      have hLT : LL ≤ 70000 := by omega
      have Hjj : Hid (4 + N + (j + 1) = LL + 1 ∧ LL + 1 ≤ 48 * M) := ⟨by omega, by omega⟩
      clear HR hLL hTT
      go_wp2_with (at_builtin; refine wpList_append_row rfl _ _ rfl (.slice sp LL c) (.slice (some ⟨wr.heap.size, 0, none⟩) 1 1) _ [0] rfl (unhide HR1) rfl (unhide HZ) (by rw [unhide HL]; simp; omega) ?_
                   intro v3 W3 hR3
                   rw [unhide HN2] at hR3
                   obtain ⟨p3, q3, e3⟩ := hR3.own.form
                   have hl3 : (bigB N 4 ++ b ++ List.replicate (j + 1) 0).length = LL + 1 := by rw [← unhide HN2, List.length_append, unhide HL]; rfl
                   rw [hl3] at e3
                   subst e3
                   have HR3 := hide hR3
                   clear hR3 hl3)
      refine ⟨⟨j + 1, q3, p3, by have := unhide Hjj; omega, ?_, ?_⟩, ?_⟩
      · rw [(unhide Hjj).1]
      · rw [(unhide Hjj).1]; exact HR3
      · have := (unhide Hjj).2
        simp
        omega
    · have hLT : LL = TT := by omega
      subst hLT
      have f1 : decide ((LL : Int) < (LL : Int)) = false := by simp
      have hbody : bigB N 4 ++ b ++ List.replicate j 0 = bodyOf b := by
        unfold bodyOf
        rw [unhide HN, List.append_assoc, unhide HM, show 48 * M - (4 + N) = j by omega]
      rw [hbody] at HR
      have HBL : Hid ((bodyOf b).length = LL) := by show _ = _; rw [body_len, unhide HN, unhide HM]; exact hTT
      have HTT := hide hTT
      clear hbody hLL hlt eTT
      have HS0 : Hid (SecI b g o m w1 wr (.slice sp LL c) (.slice none 0 0) 0 []) := ⟨rfl, own_nil _ _ _, fun k v hv => by simp at hv, (unhide HR).bytes, fun q hq => ⟨by simp [Value.ownBlock], (World.ownsRow.lt (unhide HR).own q hq).2⟩, (unhide HR).b⟩
      clear HR
      go_wp2
      go_loopw [11, 12] (fun oo ii wq => ∃ (i co : Nat) (so : Option Addr) (vs : List Value), i ≤ M ∧ oo = .slice so i co ∧ ii = .int .i64 (i : Int) ∧ Hid (SecI b g o m w1 wq (.slice sp LL c) (.slice so i co) i vs)) (fun _ ii _ => M - (intOf ii).toNat)
      case atStart => exact ⟨0, 0, none, [], by omega, rfl, rfl, HS0⟩
      case round =>
        clear HS0
        obtain ⟨i, co, so, vs, hi, rfl, rfl, HS⟩ := hrel
        rename World => wy
        by_cases hltM : i < M
        · have f2 : decide ((i : Int) < (M : Int)) = true := by simp; omega
          have f2n : decide (i < M) = true := by simp; omega
          obtain ⟨M1, hM1'⟩ : ∃ y, M - 1 = y := ⟨_, rfl⟩
          have eM1 : (M : Int) - 1 = (M1 : Int) := by omega
          obtain ⟨F, hF⟩ : ∃ y, 48 * i = y := ⟨_, rfl⟩
          obtain ⟨G, hG⟩ : ∃ y, F + 48 = y := ⟨_, rfl⟩
          have eF : (48 : Int) * (i : Int) = (F : Int) := by omega
          have eG : (F : Int) + 48 = (G : Int) := by omega
          have hcap : LL ≤ c := by
            obtain ⟨_, c', e_, h_, _⟩ := bytes_open (unhide HS).body
            simp only [Value.slice.injEq] at e_
            have := unhide HBL
            omega
          have hsl : ∀ w, (Instr.sliceAt 23 (.slice sp LL c) (some (.int .i64 (F : Int))) (some (.int .i64 (G : Int))) none).run Tryz.prog w = .ok (.slice (cutAt sp c F) 48 (c - F)) w := fun w => by
            have := slice_mid sp LL c F G (by omega) (by omega) w
            rwa [show G - F = 48 by omega] at this
          have HPart : Hid (∀ w', Below wy.heap.size wy w' → BytesAt w' (.slice (cutAt sp c F) 48 (c - F)) (((bodyOf b).drop (48 * i)).take 48)) := fun w' hb => by
            have h_ := (unhide HS).body.below hb
            rw [← unhide HBL] at h_
            have := bytes_part h_ F G (by omega) (by rw [unhide HBL]; omega)
            rw [show G - F = 48 by omega] at this
            rw [hF]
            exact this
          have HPl : Hid ((((bodyOf b).drop (48 * i)).take 48).length = 48) := by show _ = _; rw [List.length_take, List.length_drop, unhide HBL]; omega
          have HPS : Hid (bigB g 4 ++ bigB o 4 ++ bigB m 4 ++ bigB i 2 ++ bigB M1 2 ++ ((bodyOf b).drop (48 * i)).take 48 = partS b g o m i) := by
            show _ = _
            unfold partS headS
            rw [unhide HN, unhide HM, hM1']
            simp only [List.append_assoc]
          have HPL : Hid ((partS b g o m i).length = 64) := part_len g o m (by rw [unhide HN, unhide HM]; exact hltM)
          obtain ⟨PT, hPT⟩ : ∃ y, ((bodyOf b).drop (48 * i)).take 48 = y := ⟨_, rfl⟩
          rw [hPT] at HPart HPl HPS
          clear hPT hM1' hF hG hcap
          have Hbp1 := hide (big_any wy g 4 (by omega) (by omega))
          go_wp2_with fail
          refine (unhide Hbp1).mono ?_
          rintro e u1 ⟨v_, rfl, h_⟩
          obtain ⟨sp1, cp1, e_⟩ := h_.own.form
          rw [big_len] at e_
          subst e_
          have HRp1 := hide h_
          clear h_ Hbp1
          have Hbp2 := hide (big_any u1 o 4 (by omega) (by omega))
          go_wp2_with fail
          refine (unhide Hbp2).mono ?_
          rintro e u2 ⟨v_, rfl, h_⟩
          obtain ⟨sp2, cp2, e_⟩ := h_.own.form
          rw [big_len] at e_
          subst e_
          have HRp2 := hide h_
          clear h_ Hbp2
          have Hj := hide (join_any u2 (.slice sp1 4 cp1) (.slice sp2 4 cp2) (bigB g 4) (bigB o 4) ((unhide HRp1).bytes.below (unhide HRp2).b) (unhide HRp2).bytes (by simp [big_len]))
          go_wp2_with fail
          refine (unhide Hj).mono ?_
          rintro e u3 ⟨v_, rfl, h_⟩
          obtain ⟨sp3, cp3, e_⟩ := h_.own.form
          rw [show (bigB g 4 ++ bigB o 4).length = 8 from by simp [big_len]] at e_
          subst e_
          have HRp3 : Hid (Row wy u3 (.slice sp3 8 cp3) (bigB g 4 ++ bigB o 4)) := h_.up ((unhide HRp1).b.trans ((unhide HRp2).b.mono (unhide HRp1).b.size))
          clear h_ Hj HRp1 HRp2
          have Hbp4 := hide (big_any u3 m 4 (by omega) (by omega))
          go_wp2_with fail
          refine (unhide Hbp4).mono ?_
          rintro e u4 ⟨v_, rfl, h_⟩
          obtain ⟨sp4, cp4, e_⟩ := h_.own.form
          rw [big_len] at e_
          subst e_
          have HRp4 := hide h_
          clear h_ Hbp4
          have HQ4 := hide ((unhide HRp3).call (unhide HRp4).b)
          have HY4 := hide (unhide HRp4).bytes
          clear HRp3 HRp4
          go_wp2_with (at_builtin; refine wpList_append_row rfl _ _ rfl (.slice sp3 8 cp3) (.slice sp4 4 cp4) (bigB g 4 ++ bigB o 4) (bigB m 4) rfl (unhide HQ4) rfl (unhide HY4) (by simp [big_len]) ?_
                       intro v_ u5 h_
                       obtain ⟨sp5, cp5, e_⟩ := h_.own.form
                       have hl_ : ((bigB g 4 ++ bigB o 4) ++ (bigB m 4)).length = 12 := by simp [big_len]
                       rw [hl_] at e_
                       subst e_
                       have HRp5 := hide h_
                       clear h_ hl_)
          clear HQ4 HY4
          have Hbp6 := hide (big_any u5 i 2 (by omega) (by omega))
          go_wp2_with fail
          refine (unhide Hbp6).mono ?_
          rintro e u6 ⟨v_, rfl, h_⟩
          obtain ⟨sp6, cp6, e_⟩ := h_.own.form
          rw [big_len] at e_
          subst e_
          have HRp6 := hide h_
          clear h_ Hbp6
          have HQ6 := hide ((unhide HRp5).call (unhide HRp6).b)
          have HY6 := hide (unhide HRp6).bytes
          clear HRp5 HRp6
          go_wp2_with (at_builtin; refine wpList_append_row rfl _ _ rfl (.slice sp5 12 cp5) (.slice sp6 2 cp6) (bigB g 4 ++ bigB o 4 ++ bigB m 4) (bigB i 2) rfl (unhide HQ6) rfl (unhide HY6) (by simp [big_len]) ?_
                       intro v_ u7 h_
                       obtain ⟨sp7, cp7, e_⟩ := h_.own.form
                       have hl_ : ((bigB g 4 ++ bigB o 4 ++ bigB m 4) ++ (bigB i 2)).length = 14 := by simp [big_len]
                       rw [hl_] at e_
                       subst e_
                       have HRp7 := hide h_
                       clear h_ hl_)
          clear HQ6 HY6
          have Hbp8 := hide (big_any u7 M1 2 (by omega) (by omega))
          go_wp2_with fail
          refine (unhide Hbp8).mono ?_
          rintro e u8 ⟨v_, rfl, h_⟩
          obtain ⟨sp8, cp8, e_⟩ := h_.own.form
          rw [big_len] at e_
          subst e_
          have HRp8 := hide h_
          clear h_ Hbp8
          have HQ8 := hide ((unhide HRp7).call (unhide HRp8).b)
          have HY8 := hide (unhide HRp8).bytes
          clear HRp7 HRp8
          go_wp2_with (first
            | (at_builtin; refine wpList_append_row rfl _ _ rfl (.slice sp7 14 cp7) (.slice sp8 2 cp8) (bigB g 4 ++ bigB o 4 ++ bigB m 4 ++ bigB i 2) (bigB M1 2) rfl (unhide HQ8) rfl (unhide HY8) (by simp [big_len]) ?_
               intro v_ u9 h_
               obtain ⟨sp9, cp9, e_⟩ := h_.own.form
               have hl_ : ((bigB g 4 ++ bigB o 4 ++ bigB m 4 ++ bigB i 2) ++ (bigB M1 2)).length = 16 := by simp [big_len]
               rw [hl_] at e_
               subst e_
               have HRp9 := hide h_
               have HYp := hide (unhide HPart u9 h_.b)
               clear h_ hl_)
            | (at_builtin; refine wpList_append_row rfl _ _ rfl (.slice sp9 16 cp9) (.slice (cutAt sp c F) 48 (c - F)) (bigB g 4 ++ bigB o 4 ++ bigB m 4 ++ bigB i 2 ++ bigB M1 2) PT rfl (unhide HRp9) rfl (unhide HYp) (by rw [unhide HPl]; simp [big_len]) ?_
               intro v_ v1 h_
               rw [unhide HPS] at h_
               obtain ⟨sq, cq, e_⟩ := h_.own.form
               rw [unhide HPL] at e_
               subst e_
               have HRq := hide h_
               have HOq : Hid (OwnV 23 (v1.alloc (.cells #[.slice sq 64 cq] 23)) w1.heap.size (.slice so i co) vs) := (unhide HS).own.below (h_.b.alloc h_.b.size _)
               have HVq : Hid (ValsAt (v1.alloc (.cells #[.slice sq 64 cq] 23)) (.slice (some ⟨v1.heap.size, 0, none⟩) 1 1) [.slice sq 64 cq]) := vals_new v1 [.slice sq 64 cq] 23
               have HBq : Hid (w1.heap.size ≤ (v1.alloc (.cells #[.slice sq 64 cq] 23)).heap.size) := Nat.le_trans (unhide HS).b.size (h_.b.alloc h_.b.size _).size
               clear h_)
            | (at_builtin; refine wpList_append_vals Ebb rfl _ _ rfl w1.heap.size (.slice so i co) (.slice (some ⟨v1.heap.size, 0, none⟩) 1 1) vs [.slice sq 64 cq] rfl (unhide HOq) rfl (unhide HVq) (by simp [Value.oneCell']) (unhide HBq) (by have := (unhide HS).len; simp; omega) ?_
               intro v_ v2 ho_ hg_ hor_
               obtain ⟨sr, cr, e_⟩ := ho_.form
               rw [List.length_append, (unhide HS).len] at e_
               have e2_ : v_ = .slice sr (i + 1) cr := e_
               subst e2_
               have HNx := hide ((unhide HS).next (unhide HRq) (unhide HPL) ho_ hg_ hor_)
               clear ho_ hg_ hor_ e_))
          refine ⟨⟨i + 1, cr, sr, _, by omega, ?_, ?_, HNx⟩, ?_⟩
          · rfl
          · simp
          · simp [intOf]; omega
        · obtain rfl : i = M := by omega
          have f2 : decide ((i : Int) < (i : Int)) = false := by simp
          have HE : Hid (FreshL w1.heap.size wy (.slice so i co) vs (recS b g o m)) := by
            refine ⟨(unhide HS).own.vals, fun k hk => (World.ownsRow.lt (unhide HS).own k hk).1, by rw [(unhide HS).len, rec_len, unhide HN, unhide HM], fun k v x hv hx => ?_⟩
            have hk : k < needs b.length := by
              have := (List.getElem?_eq_some_iff.1 hx).1
              rwa [rec_len] at this
            rw [rec_at b g o m hk] at hx
            simp only [Option.some.injEq] at hx
            subst hx
            exact ⟨((unhide HS).each k v hv).1, fun q hq => (((unhide HS).each k v hv).2 q hq).2.2⟩
          have HB := hide (unhide HS).b
          clear HS
          go_wp2
          go_ret
          exact ⟨_, _, rfl, unhide HE, unhide HB⟩
end Go.Proofs.YtbjgknoipbekoaaGreat
namespace Go.Proofs.YtbjgknoipbekoaaGreat
open Go.RowKit
theorem read_part {s : PS} {a n i : Nat} (hd : s.down = false) (hf : a + n ≤ s.safe.length) (hi : i < n) : readE s ((a + i : Nat) : Int) = 0 ∧ (W.partOf (contentS s) a n)[i]? = some (readB s ((a + i : Nat) : Int)) := by
  have hr : rightAt s ((a + i : Nat) : Int) = true := by unfold rightAt; simp; omega
  constructor
  · unfold readE; rw [hd, hr]; rfl
  · rw [W.partOf_at _ hi]
    unfold readB
    rw [hd, hr]
    simp only [Bool.false_eq_true, if_false, Bool.not_true, Int.toNat_natCast]
    have hlt : a + i < (applyL s.safe s.loose).length := by rw [apply_len]; omega
    unfold contentS
    rw [List.getElem?_eq_getElem hlt, List.getD_eq_getElem?_getD, List.getElem?_eq_getElem hlt]
    rfl
end Go.Proofs.YtbjgknoipbekoaaGreat
namespace Go.Proofs.YtbjgknoipbekoaaGreat
open Go.RowKit Go.MapKept
/-- A sector's value. -/
def sv (b : Bs) : Value := .agg (b.map bv).toArray
/-- Block B holds a map whose elements, noughts where there is none, are those of f. -/
def MAt (w : World) (B : Nat) (f : Nat → Bs) : Prop := ∃ es clock, w.heap[B]? = some (.map es clock) ∧ Stamped es clock ∧ (∀ e ∈ es.toList, ∃ k : Nat, e.key = .int .i64 (k : Int) ∧ e.val = sv (f k) ∧ (f k).length = 64) ∧ (∀ k : Nat, (∀ e ∈ es.toList, e.key ≠ .int .i64 (k : Int)) → f k = zeros)
def upd (f : Nat → Bs) (k : Nat) (b : Bs) : Nat → Bs := fun j => if j = k then b else f j
theorem key_inj {a b : Nat} (h : Value.int .i64 (a : Int) = .int .i64 (b : Int)) : a = b := by simp only [Value.int.injEq, true_and] at h; omega
theorem MAt.keys {es : Array MapEntry} {f : Nat → Bs} (h : ∀ e ∈ es.toList, ∃ k : Nat, e.key = .int .i64 (k : Int) ∧ e.val = sv (f k) ∧ (f k).length = 64) : ∀ e ∈ es.toList, IsKey (.int .i64) e.key := by
  intro e he
  obtain ⟨k, hk, _⟩ := h e he
  rw [hk]; rfl
theorem MAt.made (w : World) : MAt (w.alloc (.map #[] 0)) w.heap.size (fun _ => zeros) := ⟨#[], 0, (heap_alloc w _).1, stamped_empty 0, fun e he => by simp at he, fun _ _ => rfl⟩
theorem MAt.aside {S : Set_} {w w' : World} {B : Nat} {f : Nat → Bs} (h : MAt w B f) (hb : Aside S w w') (hB : ¬ S B) : MAt w' B f := by
  obtain ⟨es, c, h1, h2⟩ := h
  exact ⟨es, c, by rw [hb.block B (Array.getElem?_eq_some_iff.1 h1).1 hB]; exact h1, h2⟩
theorem MAt.below {w w' : World} {B : Nat} {f : Nat → Bs} (h : MAt w B f) (hb : Below w.heap.size w w') : MAt w' B f := h.aside (S := none_) (Aside.of_below hb) fun h => h
theorem MAt.lt {w : World} {B : Nat} {f : Nat → Bs} (h : MAt w B f) : B < w.heap.size := by
  obtain ⟨es, c, h1, _⟩ := h
  exact (Array.getElem?_eq_some_iff.1 h1).1
theorem MAt.len {w : World} {B : Nat} {f : Nat → Bs} (h : MAt w B f) (k : Nat) : (f k).length = 64 := by
  obtain ⟨es, c, _, _, h3, h4⟩ := h
  by_cases hn : ∀ e ∈ es.toList, e.key ≠ .int .i64 (k : Int)
  · rw [h4 k hn]; exact zeros_len
  · have ⟨e, he⟩ := Classical.not_forall.1 hn
    have ⟨h1, h2⟩ := Classical.not_imp.1 he
    have h2' := Classical.not_not.1 h2
    obtain ⟨j, hj, _, hl⟩ := h3 e h1
    rw [h2'] at hj
    rw [key_inj hj]; exact hl
theorem MAt.congr {w : World} {B : Nat} {f g : Nat → Bs} (h : MAt w B f) (e : ∀ k, f k = g k) : MAt w B g := by
  obtain rfl : f = g := funext e
  exact h
/-- m[k]. -/
theorem MAt.look {w : World} {B : Nat} {f : Nat → Bs} (h : MAt w B f) (k : Nat) : (Instr.lookup 84 (.map (some B)) (.int .i64 (k : Int)) false).run Tryz.prog w = .ok (sv (f k)) w := by
  obtain ⟨es, c, h1, h2, h3, h4⟩ := h
  have hk : IsKey (.int .i64) (.int .i64 (k : Int)) := rfl
  rcases findNow_spec hk es.toList 0 (MAt.keys h3) with ⟨g1, g2⟩ | ⟨j, e, g1, g2, g3⟩
  · rw [h4 k g2]
    simp [Instr.lookup, run_underlying Tryz.underlying84, MapKept.run_getObj_map h1, run_checkKey Tryz.underlying3 hk, run_findKey Tryz.underlying3 g1, Result.andThen]
    rfl
  · obtain ⟨i, hi, hv, _⟩ := h3 e (List.mem_of_getElem? g2)
    rw [hi] at g3
    have := key_inj g3
    subst this
    simp [Instr.lookup, run_underlying Tryz.underlying84, MapKept.run_getObj_map h1, run_checkKey Tryz.underlying3 hk, run_findKey Tryz.underlying3 g1, Result.andThen, hv]
/-- m[k] = v. -/
theorem MAt.update {w : World} {B : Nat} {f : Nat → Bs} (h : MAt w B f) (k : Nat) (b : Bs) (hb : b.length = 64) : ∃ w', (Instr.mapUpdate 84 (.map (some B)) (.int .i64 (k : Int)) (sv b)).run Tryz.prog w = .ok () w' ∧ MAt w' B (upd f k b) ∧ w.grownBy w' (some B) := by
  obtain ⟨es, c, h1, h2, h3, h4⟩ := h
  have hk : IsKey (.int .i64) (.int .i64 (k : Int)) := rfl
  rcases findNow_spec hk es.toList 0 (MAt.keys h3) with ⟨g1, g2⟩ | ⟨j, e, g1, g2, g3⟩
  · refine ⟨{ w with heap := w.heap.setIfInBounds B (.map (es.push ⟨.int .i64 (k : Int), sv b, c⟩) (c + 1)) }, ?_, ⟨_, _, (heap_set h1).1, stamped_push h2 g2, ?_, ?_⟩, ⟨rfl, rfl, rfl, by simp, fun i _ hi => (heap_set h1).2 i fun e => hi (by rw [e])⟩⟩
    · simp [Instr.mapUpdate, run_underlying Tryz.underlying84, MapKept.run_getObj_map h1, run_checkKey Tryz.underlying3 hk, run_findKey Tryz.underlying3 g1, MapKept.run_setObj_map _ h1, Result.andThen]
    · intro x hx
      simp only [Array.toList_push, List.mem_append, List.mem_singleton] at hx
      rcases hx with hx | rfl
      · obtain ⟨i, hi, hv, hl⟩ := h3 x hx
        have hne : i ≠ k := fun e => g2 x hx (by rw [hi, e])
        exact ⟨i, hi, by unfold upd; rw [if_neg hne]; exact hv, by unfold upd; rw [if_neg hne]; exact hl⟩
      · exact ⟨k, rfl, by unfold upd; rw [if_pos rfl], by unfold upd; rw [if_pos rfl]; exact hb⟩
    · intro i hi
      have hne : i ≠ k := fun e => hi ⟨.int .i64 (k : Int), sv b, c⟩ (by simp) (by rw [e])
      unfold upd
      rw [if_neg hne]
      exact h4 i fun x hx => hi x (by simp [hx])
  · have hj : es[j]? = some e := by simpa using g2
    have hlist : (es.modify j (fun e' => { e' with key := .int .i64 (k : Int), val := sv b })).toList = es.toList.set j { e with key := .int .i64 (k : Int), val := sv b } := by
      rw [Array.toList_modify, ChangeMaps.modify_eq_set _ _ _ _ g2]
    have hn : es.toList.Pairwise (fun x y => x.key ≠ y.key) := ((stamped_iff es c).1 h2).2.2
    have who : ∀ x ∈ es.toList.set j { e with key := .int .i64 (k : Int), val := sv b }, x = { e with key := .int .i64 (k : Int), val := sv b } ∨ (x ∈ es.toList ∧ x.key ≠ .int .i64 (k : Int)) := by
      intro x hx
      obtain ⟨i, hi, ex⟩ := List.getElem_of_mem hx
      rw [List.getElem_set] at ex
      split at ex
      · exact Or.inl ex.symm
      · rename_i hne
        have hi' : i < es.toList.length := by simpa using hi
        have hjl : j < es.toList.length := (List.getElem?_eq_some_iff.1 g2).1
        have ej : es.toList[j] = e := (List.getElem?_eq_some_iff.1 g2).2
        refine Or.inr ⟨ex ▸ List.getElem_mem hi', ?_⟩
        rw [← g3]
        rcases Nat.lt_or_gt_of_ne hne with hlt | hlt
        · have := List.pairwise_iff_getElem.1 hn j i hjl hi' hlt
          rw [ej, ex] at this
          exact this.symm
        · have := List.pairwise_iff_getElem.1 hn i j hi' hjl hlt
          rw [ej, ex] at this
          exact this
    refine ⟨{ w with heap := w.heap.setIfInBounds B (.map (es.modify j (fun e' => { e' with key := .int .i64 (k : Int), val := sv b })) c) }, ?_, ⟨_, _, (heap_set h1).1, stamped_modify h2 _ _ (fun _ _ => rfl) (fun e' _ he' => by rw [hj] at he'; cases he'; exact g3.symm), ?_, ?_⟩, ⟨rfl, rfl, rfl, by simp, fun i _ hi => (heap_set h1).2 i fun e => hi (by rw [e])⟩⟩
    · simp [Instr.mapUpdate, run_underlying Tryz.underlying84, MapKept.run_getObj_map h1, run_checkKey Tryz.underlying3 hk, run_findKey Tryz.underlying3 g1, hj, g3, run_keyThatStays hk, MapKept.run_setObj_map _ h1, Result.andThen]
    · intro x hx
      rw [hlist] at hx
      rcases who x hx with rfl | ⟨hx', hne'⟩
      · exact ⟨k, rfl, by unfold upd; rw [if_pos rfl], by unfold upd; rw [if_pos rfl]; exact hb⟩
      · obtain ⟨i, hi, hv, hl⟩ := h3 x hx'
        have hne : i ≠ k := fun e => hne' (by rw [hi, e])
        exact ⟨i, hi, by unfold upd; rw [if_neg hne]; exact hv, by unfold upd; rw [if_neg hne]; exact hl⟩
    · intro i hi
      have hne : i ≠ k := fun e1 => hi { e with key := .int .i64 (k : Int), val := sv b } (by rw [hlist]; exact List.mem_iff_getElem.2 ⟨j, by simpa using (List.getElem?_eq_some_iff.1 g2).1, by simp⟩) (by rw [e1])
      unfold upd
      rw [if_neg hne]
      refine h4 i fun x hx e2 => ?_
      have hx2 : x ∈ (es.modify j (fun e' => { e' with key := .int .i64 (k : Int), val := sv b })).toList ∨ x = e := by
        rw [hlist]
        obtain ⟨m, hm, ex⟩ := List.getElem_of_mem hx
        by_cases hmj : m = j
        · subst hmj
          right
          rw [← ex]; exact (List.getElem?_eq_some_iff.1 g2).2
        · left
          exact List.mem_iff_getElem.2 ⟨m, by simpa using hm, by rw [List.getElem_set_ne (by omega)]; exact ex⟩
      rcases hx2 with h | rfl
      · exact hi x h e2
      · rw [g3] at e2
        exact hne (key_inj e2).symm
/-- delete(m, k). -/
theorem MAt.drop {w : World} {B : Nat} {f : Nat → Bs} (h : MAt w B f) (k : Nat) (ty : TypeId) : ∃ w', (Builtin.delete_ #[84, 3] ty #[.map (some B), .int .i64 (k : Int)]).run Tryz.prog w = .ok (.tuple #[]) w' ∧ MAt w' B (upd f k zeros) ∧ w.grownBy w' (some B) := by
  obtain ⟨es, c, h1, h2, h3, h4⟩ := h
  have hk : IsKey (.int .i64) (.int .i64 (k : Int)) := rfl
  rcases findNow_spec hk es.toList 0 (MAt.keys h3) with ⟨g1, g2⟩ | ⟨j, e, g1, g2, g3⟩
  · refine ⟨{ w with heap := w.heap.setIfInBounds B (.map es c) }, ?_, ⟨_, _, (heap_set h1).1, h2, ?_, ?_⟩, ⟨rfl, rfl, rfl, by simp, fun i _ hi => (heap_set h1).2 i fun e => hi (by rw [e])⟩⟩
    · simp [Builtin.delete_, run_underlying Tryz.underlying84, MapKept.run_getObj_map h1, run_checkKey Tryz.underlying3 hk, run_findKey Tryz.underlying3 g1, MapKept.run_setObj_map _ h1, Result.andThen]
    · intro x hx
      obtain ⟨i, hi, hv, hl⟩ := h3 x hx
      have hne : i ≠ k := fun e => g2 x hx (by rw [hi, e])
      exact ⟨i, hi, by unfold upd; rw [if_neg hne]; exact hv, by unfold upd; rw [if_neg hne]; exact hl⟩
    · intro i hi
      unfold upd
      split
      · rfl
      · exact h4 i hi
  · have hjl : j < es.toList.length := (List.getElem?_eq_some_iff.1 g2).1
    have hjs : j < es.size := by simpa using hjl
    have ej : es.toList[j] = e := (List.getElem?_eq_some_iff.1 g2).2
    have hsub : (es.eraseIdxIfInBounds j).toList = es.toList.eraseIdx j := by
      unfold Array.eraseIdxIfInBounds
      rw [dif_pos hjs]
      simp
    have hn : es.toList.Pairwise (fun x y => x.key ≠ y.key) := ((stamped_iff es c).1 h2).2.2
    refine ⟨{ w with heap := w.heap.setIfInBounds B (.map (es.eraseIdxIfInBounds j) c) }, ?_, ⟨_, _, (heap_set h1).1, stamped_erase h2 j, ?_, ?_⟩, ⟨rfl, rfl, rfl, by simp, fun i _ hi => (heap_set h1).2 i fun e => hi (by rw [e])⟩⟩
    · simp [Builtin.delete_, run_underlying Tryz.underlying84, MapKept.run_getObj_map h1, run_checkKey Tryz.underlying3 hk, run_findKey Tryz.underlying3 g1, MapKept.run_setObj_map _ h1, Result.andThen]
    · intro x hx
      rw [hsub] at hx
      obtain ⟨m, hmj, hm⟩ := List.mem_eraseIdx_iff_getElem?.1 hx
      have hml : m < es.toList.length := (List.getElem?_eq_some_iff.1 hm).1
      have em : es.toList[m] = x := (List.getElem?_eq_some_iff.1 hm).2
      have hkey : x.key ≠ e.key := by
        rcases Nat.lt_or_gt_of_ne hmj with hlt | hlt
        · have := List.pairwise_iff_getElem.1 hn m j hml hjl hlt
          rw [ej, em] at this
          exact this
        · have := List.pairwise_iff_getElem.1 hn j m hjl hml hlt
          rw [ej, em] at this
          exact this.symm
      obtain ⟨i, hi, hv, hl⟩ := h3 x (List.mem_of_getElem? hm)
      have hne : i ≠ k := fun e1 => hkey (by rw [hi, e1, g3])
      exact ⟨i, hi, by unfold upd; rw [if_neg hne]; exact hv, by unfold upd; rw [if_neg hne]; exact hl⟩
    · intro i hi
      unfold upd
      split
      · rfl
      · rename_i hne
        refine h4 i fun x hx e2 => ?_
        obtain ⟨m, hm, ex⟩ := List.getElem_of_mem hx
        by_cases hmj : m = j
        · subst hmj
          rw [ej] at ex
          subst ex
          rw [g3] at e2
          exact hne (key_inj e2).symm
        · exact hi x (by rw [hsub]; exact List.mem_eraseIdx_iff_getElem?.2 ⟨m, hmj, by rw [List.getElem?_eq_getElem hm, ex]⟩) e2
/-- Two sectors held against each other. -/
theorem items_eq (w : World) (d : Nat) (a b : Bs) : ∀ (is : List Nat), (∀ i ∈ is, i < a.length ∧ i < b.length) → (Op.eqItems (d + 1) 5 1 (a.map bv).toArray (b.map bv).toArray is).run Tryz.prog w = .ok (is.all fun i => a.getD i 0 == b.getD i 0) w
  | [], _ => by simp [Op.eqItems]
  | i :: is, h => by
    obtain ⟨ha, hb⟩ := h i List.mem_cons_self
    have ih := items_eq w d a b is fun j hj => h j (List.mem_cons_of_mem _ hj)
    have hp : ∀ (l : Bs), i < l.length → (part 5 (l.map bv).toArray (i * 1)).run Tryz.prog w = .ok (bv (l.getD i 0)) w := by
      intro l hl
      have hu : (isAgg 5).run Tryz.prog w = .ok false w := by kernel_rfl
      simp [part, Sem.run_bind, hu, List.getD_eq_getElem?_getD, hl]
    rw [Op.eqItems]
    simp only [Sem.run_bind, hp a ha, hp b hb, Result.andThen_ok, bv, run_equalIn_int w d 5 .u8 .u8 _ _ Tryz.underlying5, List.all_cons]
    have e : (((a.getD i 0).toNat : Int) == ((b.getD i 0).toNat : Int)) = (a.getD i 0 == b.getD i 0) := by
      rw [Bool.eq_iff_iff]
      simp only [beq_iff_eq]
      constructor
      · intro h; exact UInt8.toNat_inj.1 (by omega)
      · intro h; rw [h]
    rw [e]
    cases hc : (a.getD i 0 == b.getD i 0)
    · simp
    · simpa using ih
set_option maxRecDepth 100000 in
theorem sector_eq (w : World) (a b : Bs) (ha : a.length = 64) (hb : b.length = 64) : (Op.equal 107 (sv a) (sv b)).run Tryz.prog w = .ok (decide (a = b)) w := by
  obtain ⟨i, hi, _⟩ := Option.map_eq_some_iff.1 (show (Tryz.prog.info? 5).map (fun i => i.size) = some 1 by kernel_rfl)
  have hc : Tryz.prog.cellsOf 5 = 1 := by kernel_rfl
  unfold Op.equal sv
  rw [show Op.maxDepth = 9999 + 1 from rfl, run_equalIn_array w 9999 _ _ Tryz.underlying107 hi, hc, items_eq w 9998 a b (List.range 64) (fun i hi => by have := List.mem_range.1 hi; omega)]
  congr 1
  rw [Bool.eq_iff_iff, List.all_eq_true, decide_eq_true_iff]
  constructor
  · intro h
    apply List.ext_getElem (by omega)
    intro i h1 h2
    have := h i (List.mem_range.2 (by omega))
    simpa [List.getD_eq_getElem?_getD, h1, h2] using this
  · intro h i _
    simp [h]
end Go.Proofs.YtbjgknoipbekoaaGreat
namespace Go.Proofs.YtbjgknoipbekoaaGreat
open Go.RowKit
theorem size_sector : (Tryz.prog.info? 107).map (·.size) = some 64 := by kernel_rfl
theorem Aside.grown {S : Set_} {a b c : World} {B : Nat} (h : Aside S a b) (hg : b.grownBy c (some B)) (hB : a.heap.size ≤ B ∨ S B) : Aside S a c :=
  ⟨hg.os.trans h.os, hg.tape.trans h.tape, hg.output.trans h.output, Nat.le_trans h.size hg.size, fun k hk hn => (hg.block k (Nat.lt_of_lt_of_le hk h.size) fun e => by
    rcases hB with hB | hB
    · have := Option.some.inj e; omega
    · exact hn (Option.some.inj e ▸ hB)).trans (h.block k hk hn)⟩
theorem sector_lit (w : World) (b : Bs) (hb : b.length = 64) : (Op.equalIn 10000 107 (.agg (b.map bv).toArray) (.agg (Value.int IntKind.u8 0 :: Value.int IntKind.u8 0 :: Value.int IntKind.u8 0 :: Value.int IntKind.u8 0 :: Value.int IntKind.u8 0 :: Value.int IntKind.u8 0 :: Value.int IntKind.u8 0 :: Value.int IntKind.u8 0 :: Value.int IntKind.u8 0 :: Value.int IntKind.u8 0 :: Value.int IntKind.u8 0 :: Value.int IntKind.u8 0 :: Value.int IntKind.u8 0 :: Value.int IntKind.u8 0 :: Value.int IntKind.u8 0 :: Value.int IntKind.u8 0 :: Value.int IntKind.u8 0 :: Value.int IntKind.u8 0 :: Value.int IntKind.u8 0 :: Value.int IntKind.u8 0 :: Value.int IntKind.u8 0 :: Value.int IntKind.u8 0 :: Value.int IntKind.u8 0 :: Value.int IntKind.u8 0 :: Value.int IntKind.u8 0 :: Value.int IntKind.u8 0 :: Value.int IntKind.u8 0 :: Value.int IntKind.u8 0 :: Value.int IntKind.u8 0 :: Value.int IntKind.u8 0 :: Value.int IntKind.u8 0 :: Value.int IntKind.u8 0 :: Value.int IntKind.u8 0 :: Value.int IntKind.u8 0 :: Value.int IntKind.u8 0 :: Value.int IntKind.u8 0 :: Value.int IntKind.u8 0 :: Value.int IntKind.u8 0 :: Value.int IntKind.u8 0 :: Value.int IntKind.u8 0 :: Value.int IntKind.u8 0 :: Value.int IntKind.u8 0 :: Value.int IntKind.u8 0 :: Value.int IntKind.u8 0 :: Value.int IntKind.u8 0 :: Value.int IntKind.u8 0 :: Value.int IntKind.u8 0 :: Value.int IntKind.u8 0 :: Value.int IntKind.u8 0 :: Value.int IntKind.u8 0 :: Value.int IntKind.u8 0 :: Value.int IntKind.u8 0 :: Value.int IntKind.u8 0 :: Value.int IntKind.u8 0 :: Value.int IntKind.u8 0 :: Value.int IntKind.u8 0 :: Value.int IntKind.u8 0 :: Value.int IntKind.u8 0 :: Value.int IntKind.u8 0 :: Value.int IntKind.u8 0 :: Value.int IntKind.u8 0 :: Value.int IntKind.u8 0 :: Value.int IntKind.u8 0 :: Value.int IntKind.u8 0 :: []).toArray)).run Tryz.prog w = .ok (decide (b = zeros)) w := sector_eq w b zeros hb zeros_len
set_option maxRecDepth 100000 in
set_option maxHeartbeats 4000000 in
theorem put_c (w : World) (M : Nat) (f : Nat → Bs) (hm : MAt w M f) (k : Nat) (b : Bs) (hb : b.length = 64) :
    Calls Tryz.prog 53 #[.map (some M), .int .i64 (k : Int), sv b] w fun e w' => e = .returned (.tuple #[]) ∧ MAt w' M (upd f k b) ∧ Aside (fun j => j = M) w w' := by
  have hq := fun w => sector_lit w b hb
  have hX : (b.map bv).toArray.size = 64 := by simp [hb]
  have hm1 := hm.below ((Below.refl _ _).alloc (Nat.le_refl _) (.cells (b.map bv).toArray 107))
  have hA := heap_alloc_new w (.cells (b.map bv).toArray 107)
  have ha1 : Aside (fun j => j = M) w (w.alloc (.cells (b.map bv).toArray 107)) := Aside.of_below ((Below.refl _ _).alloc (Nat.le_refl _) _)
  obtain ⟨wd, hrd, hmd, hgd⟩ := hm1.drop k 0
  obtain ⟨wu, hru, hmu, hgu⟩ := hm1.update k b hb
  have HD := hide (ha1.grown hgd (Or.inr rfl))
  have HU := hide (ha1.grown hgu (Or.inr rfl))
  have HMD := hide hmd
  have HMU := hide hmu
  have HA1 := hide hA
  unfold sv at hru ⊢
  clear hmd hgd hmu hgu hm hm1 ha1 hA
  by_cases he : b = zeros
  · rw [decide_eq_true he] at hq
    subst he
    obtain ⟨X, hXX⟩ : ∃ x, (zeros.map bv).toArray = x := ⟨_, rfl⟩
    rw [hXX] at hq hX hrd HA1 ⊢
    obtain ⟨W, hW⟩ : ∃ x, w.alloc (.cells X 107) = x := ⟨_, rfl⟩
    rw [hW] at hrd HA1
    clear hru HU HMU hb hXX
    go_enter Tryz.func53, Tryz.ntmps53
    go_wp2_with (refine wpList_load_row rfl 107 _ rfl w.heap.size rfl 107 X (0, 0) _ (unhide HA1) Tryz.underlying107 rfl (by rw [hX]; exact size_sector) ?_)
    (try simp only [Exit.inBlock, Exit.then])
    refine bodyPost_ret (results_none rfl _ _ _) rfl ?_
    exact ⟨rfl, unhide HMD, unhide HD⟩
  · rw [decide_eq_false he] at hq
    obtain ⟨X, hXX⟩ : ∃ x, (b.map bv).toArray = x := ⟨_, rfl⟩
    rw [hXX] at hq hX hru HA1 ⊢
    obtain ⟨W, hW⟩ : ∃ x, w.alloc (.cells X 107) = x := ⟨_, rfl⟩
    rw [hW] at hru HA1
    clear hrd HD HMD hb he hXX
    go_enter Tryz.func53, Tryz.ntmps53
    go_wp2_with (refine wpList_load_row rfl 107 _ rfl w.heap.size rfl 107 X (0, 0) _ (unhide HA1) Tryz.underlying107 rfl (by rw [hX]; exact size_sector) ?_)
    (try simp only [Exit.inBlock, Exit.then])
    refine bodyPost_end (results_none rfl _ _ _) rfl ?_
    exact ⟨rfl, unhide HMU, unhide HU⟩
end Go.Proofs.YtbjgknoipbekoaaGreat
