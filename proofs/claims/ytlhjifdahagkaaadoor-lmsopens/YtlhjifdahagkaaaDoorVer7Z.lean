/-
  The walk of the reference's Verify.
-/
import Derived.Test.YtlhjifdahagkaaaDoorM08
namespace Go.Proofs.YtlhjifdahagkaaaDoor
open Go.RowKit
theorem hTo_le (v : Nat) : ∀ k, hTo v k ≤ k
  | 0 => Nat.le_refl _
  | k + 1 => by
    rw [hTo]
    split
    · exact Nat.le_refl _
    · exact Nat.le_trans (hTo_le v k) (by omega)
theorem hOf_le (v : Nat) : hOf v ≤ 6 := hTo_le v 6
theorem wOf_is (v : Nat) (h : 0 < wOf v) : IsW (wOf v) := by
  unfold wOf wTo wTo wTo wTo wTo at *
  unfold IsW
  split
  · omega
  · split
    · omega
    · split
      · omega
      · split
        · omega
        · rename_i h1 h2 h3 h4
          rw [if_neg h1, if_neg h2, if_neg h3, if_neg h4] at h
          omega
theorem size_le {h wd : Nat} (hh : h ≤ 6) (hw : IsW wd) : sizeOf h wd ≤ 10000 := by
  have : pW wd ≤ 265 := by rcases hw with rfl | rfl | rfl | rfl <;> simp [pW]
  unfold sizeOf
  omega
/-- Is it the front of a tree's public key? -/
def isKey (b : Bs) : Prop := 56 ≤ b.length ∧ 0 < hOf (num4 b) ∧ 0 < wOf (num4 (b.drop 4))
instance (b : Bs) : Decidable (isKey b) := by unfold isKey; infer_instance
theorem shape_is (w0 : World) (x : Value) (b : Bs) (hx : BytesAt w0 x b) (hl2 : b.length ≤ 100000) : Calls Tryd.prog 42 #[x] w0 fun e w' => (∃ a c : Int, e = .returned (.tuple #[.int .i64 a, .int .i64 c, .bool (decide (isKey b))])) ∧ Below w0.heap.size w0 w' := by
  by_cases hl : 56 ≤ b.length
  · refine (shape_any w0 x b hx hl hl2).mono ?_
    rintro e w' ⟨rfl, hb⟩
    refine ⟨⟨(hOf (num4 b) : Int), (wOf (num4 (b.drop 4)) : Int), ?_⟩, hb⟩
    have e : (decide (0 < hOf (num4 b)) && decide (0 < wOf (num4 (b.drop 4)))) = decide (isKey b) := by
      unfold isKey
      rw [← Bool.decide_and]
      congr 1
      simp [hl]
    rw [e]
  · refine (shape_no w0 x b hx (by omega)).mono ?_
    rintro e w' ⟨rfl, hb⟩
    refine ⟨⟨0, 0, ?_⟩, hb⟩
    rw [decide_eq_false (fun h => hl h.1)]
theorem front_val {w0 : World} {sp : Option Addr} {c : Nat} {b : Bs} (h : BytesAt w0 (.slice sp b.length c) b) (hc : b.length ≤ c) (f : Nat) (hf : f ≤ b.length) :
    ∃ y, (∀ w, (Instr.sliceAt 24 (.slice sp b.length c) none (some (.int .i64 (f : Int))) none).run Tryd.prog w = .ok y w) ∧ BytesAt w0 y (b.take f) :=
  ⟨_, fun w => slice_front sp b.length c f (by omega) w, bytes_front h f hf⟩
set_option maxRecDepth 100000 in
set_option maxHeartbeats 4000000 in
theorem verify_ref {H : Bs → Bs} (C : RefHash H) (w0 : World) (xp xm xs : Value) (pk msg sig : Bs) (hp : BytesAt w0 xp pk) (hm : BytesAt w0 xm msg) (hs : BytesAt w0 xs sig) (lm : msg.length ≤ 100000) (ls2 : sig.length ≤ 100000) :
    Calls Tryd.prog 22 #[xp, xm, xs] w0 fun e w' => e = .returned (.bool (verifyB H pk msg sig)) ∧ Below w0.heap.size w0 w' := by
  have HC := hide C
  have HX := hide hp
  have HM := hide hm
  have HS := hide hs
  obtain ⟨pp, pc, rfl, hpc, _, _⟩ := bytes_open hp
  obtain ⟨sp, sc, rfl, hsc, _, _⟩ := bytes_open hs
  go_enter Tryd.func22, Tryd.ntmps22
  by_cases l60 : pk.length = 60
  case neg =>
    have de : ((pk.length : Int) == 60) = false := by simp; omega
    have de2 : ((pk.length : Int) != 60) = true := by simp; omega
    have Hr : Hid (verifyB H pk msg sig = false) := by show _ = _; unfold verifyB; rw [decide_eq_false l60]; rfl
    clear l60 hp hm hs
    go_wp2
    go_ret
    exact ⟨by rw [unhide Hr]; rfl, Below.refl _ _⟩
  have de : ((pk.length : Int) == 60) = true := by simp; omega
  have de2 : ((pk.length : Int) != 60) = false := by simp; omega
  by_cases l4 : 4 ≤ sig.length
  case neg =>
    have df : decide ((sig.length : Int) < 4) = true := by simp; omega
    have df' : decide (sig.length < 4) = true := by simp; omega
    have Hr : Hid (verifyB H pk msg sig = false) := by show _ = _; unfold verifyB; rw [decide_eq_false l4]; simp
    clear l60 l4 hp hm hs
    go_wp2
    go_ret
    exact ⟨by rw [unhide Hr]; rfl, Below.refl _ _⟩
  have df : decide ((sig.length : Int) < 4) = false := by simp; omega
  have df' : decide (sig.length < 4) = false := by simp; omega
  obtain ⟨L, hL⟩ : ∃ L, num4 pk = L := ⟨_, rfl⟩
  obtain ⟨S, hS⟩ : ∃ S, num4 sig = S := ⟨_, rfl⟩
  have hLb : L < 4294967296 := by rw [← hL]; exact num4_lt _
  have hSb : S < 4294967296 := by rw [← hS]; exact num4_lt _
  have HnP := hide (fun w (hb : Below w0.heap.size w0 w) => number_any w _ pk (hp.below hb) (by omega) (by omega))
  have HnS := hide (fun w (hb : Below w0.heap.size w0 w) => number_any w _ sig (hs.below hb) (by omega) (by omega))
  rw [hL] at HnP
  rw [hS] at HnS
  obtain ⟨yk, sk, bk⟩ := rest_val hp 4 (by omega)
  obtain ⟨ys, ss, bs⟩ := rest_val hs 4 (by omega)
  obtain ⟨sp2, sc2, rfl, hsc2, _, _⟩ := bytes_open bs
  simp only [Int.cast_ofNat_Int] at sk ss
  have HF : Hid (verifyB H pk msg sig = (decide (1 ≤ L) && decide (L ≤ 3) && decide (S + 1 = L) && verifyFrom H msg L (pk.drop 4) (sig.drop 4))) := by
    show _ = _
    unfold verifyB
    rw [decide_eq_true l60, decide_eq_true l4, hL, hS]
    simp
  have Bk := hide bk
  have Bsg := hide bs
  have Hk56 : Hid ((pk.drop 4).length = 56) := by show _ = _; rw [List.length_drop]; omega
  have hs4 : (sig.drop 4).length ≤ 100000 := by rw [List.length_drop]; omega
  obtain ⟨sg0, hsg0⟩ : ∃ sg0, sig.drop 4 = sg0 := ⟨_, rfl⟩
  rw [hsg0] at Bsg HF hs4 ss hsc2
  have Hs4 := hide hs4
  have Hlm := hide lm
  have Lb : (L : Int) < 4294967296 := by omega
  have Sb : (S : Int) < 4294967296 := by omega
  have Hsc2 := hide hsc2
  clear hp hm hs bk bs hL hS lm l60 l4 hsc2 hs4 hsg0
  go_wp2_with fail
  refine (unhide HnP w0 (Below.refl _ _)).mono ?_
  rintro e w1 ⟨rfl, hb1⟩
  have HB1 := hide hb1
  clear hb1
  by_cases hL1 : 1 ≤ L
  case neg =>
    have d1 : decide ((L : Int) < 1) = true := by simp; omega
    have d1' : decide (L < 1) = true := by simp; omega
    have Hr : Hid (verifyB H pk msg sig = false) := by show _ = _; rw [unhide HF, decide_eq_false hL1]; rfl
    clear hL1
    obtain rfl : L = 0 := by simpa using d1'
    go_wp2
    go_ret
    exact ⟨by rw [unhide Hr]; rfl, unhide HB1⟩
  have d1 : decide ((L : Int) < 1) = false := by simp; omega
  have d1' : decide (L < 1) = false := by simp; omega
  have d1'' : (L == 0) = false := by simp; omega
  by_cases hL3 : L ≤ 3
  case neg =>
    have d3 : decide ((3 : Int) < (L : Int)) = true := by simp; omega
    have d3' : decide (3 < L) = true := by simp; omega
    have Hr : Hid (verifyB H pk msg sig = false) := by show _ = _; rw [unhide HF, decide_eq_false hL3, Bool.and_false]; rfl
    have l1 : (1 : Int) ≤ (L : Int) := by omega
    clear hL3
    go_wp2
    go_ret
    exact ⟨by rw [unhide Hr]; rfl, unhide HB1⟩
  have d3 : decide ((3 : Int) < (L : Int)) = false := by simp; omega
  have d3' : decide (3 < L) = false := by simp; omega
  have l1 : (1 : Int) ≤ (L : Int) := by omega
  have l3 : (L : Int) ≤ 3 := by omega
  go_wp2_with fail
  refine (unhide HnS w1 (unhide HB1)).mono ?_
  rintro e w2 ⟨rfl, hb2⟩
  have HB2 := hide ((unhide HB1).trans (hb2.mono (unhide HB1).size))
  clear hb2
  by_cases hSL : S + 1 = L
  case neg =>
    have dS : ((S : Int) == (L : Int) - 1) = false := by simp; omega
    have dS2 : ((S : Int) != (L : Int) - 1) = true := by simp; omega
    have Hr : Hid (verifyB H pk msg sig = false) := by show _ = _; rw [unhide HF, decide_eq_false hSL, Bool.and_false]; rfl
    clear hSL
    go_wp2
    go_ret
    exact ⟨by rw [unhide Hr]; rfl, unhide HB2⟩
  have dS : ((S : Int) == (L : Int) - 1) = true := by simp; omega
  have dS2 : ((S : Int) != (L : Int) - 1) = false := by simp; omega
  have HF2 : Hid (verifyB H pk msg sig = verifyFrom H msg (0 + (L - 1) + 1) (pk.drop 4) sg0) := by
    show _ = _
    rw [unhide HF, decide_eq_true hL1, decide_eq_true hL3, decide_eq_true hSL, show 0 + (L - 1) + 1 = L by omega]
    rfl
  clear HF hSL
  go_wp2
  go_loopw [2, 8, 9] (fun sv kv ii wr => ∃ (i n : Nat) (k sg : Bs) (sp : Option Addr) (sc : Nat), 1 ≤ i ∧ i + n = L ∧ ii = .int .i64 (i : Int) ∧ sv = .slice sp sg.length sc ∧ sg.length ≤ sc ∧ sg.length ≤ 100000 ∧ Hid (k.length = 56) ∧ Hid (BytesAt w0 kv k) ∧ Hid (BytesAt w0 sv sg) ∧ Hid (verifyB H pk msg sig = verifyFrom H msg (n + 1) k sg) ∧ Hid (Below w0.heap.size w0 wr)) (fun _ _ ii _ => 4 - (intOf ii).toNat)
  case atStart => exact ⟨1, L - 1, _, _, _, _, by omega, by omega, rfl, rfl, unhide Hsc2, unhide Hs4, Hk56, Bk, Bsg, by rw [Nat.zero_add] at HF2; exact HF2, HB2⟩
  case round =>
    clear HB2 HF2 Hs4 Hk56 Bk Bsg Hsc2 ss sk
    obtain ⟨i, n, k, sg, sp3, sc3, hi1, hin, rfl, rfl, hsc3, hsg, Hk, Bk, Bg, HF, HB⟩ := hrel
    rename World => wc
    have ib : (i : Int) ≤ 3 := by omega
    have d4 : decide ((i : Int) ≤ (L : Int)) = true := by simp; omega
    have d4' : decide (i ≤ L) = true := by simp; omega
    have Hsh := hide (shape_any wc _ k ((unhide Bk).below (unhide HB)) (by have := unhide Hk; omega) (by have := unhide Hk; omega))
    obtain ⟨h, hhe⟩ : ∃ h, hOf (num4 k) = h := ⟨_, rfl⟩
    obtain ⟨wd, hwe⟩ : ∃ wd, wOf (num4 (k.drop 4)) = wd := ⟨_, rfl⟩
    have hh6 : h ≤ 6 := by rw [← hhe]; exact hOf_le _
    rw [hhe, hwe] at Hsh
    by_cases hok : 0 < h ∧ 0 < wd
    case neg =>
      have hb0 : (decide (0 < h) && decide (0 < wd)) = false := by
        rw [← Bool.decide_and]; exact decide_eq_false hok
      rw [hb0] at Hsh
      have Hr : Hid (verifyB H pk msg sig = false) := by
        show _ = _
        rw [unhide HF, verifyFrom, hhe, hwe, if_neg (fun h => hok ⟨h.2.1, h.2.2.1⟩)]
      clear hhe hwe hok hb0 HF
      go_wp2_with fail
      refine (unhide Hsh).mono ?_
      rintro e w3 ⟨rfl, hb⟩
      have HB3 := hide ((unhide HB).trans (hb.mono (unhide HB).size))
      clear hb
      go_wp2
      go_ret
      exact ⟨by rw [unhide Hr]; rfl, unhide HB3⟩
    have hb0 : (decide (0 < h) && decide (0 < wd)) = true := by
      rw [← Bool.decide_and]; exact decide_eq_true hok
    rw [hb0] at Hsh
    have hW : IsW wd := by rw [← hwe]; exact wOf_is _ (by rw [hwe]; exact hok.2)
    have Hsz := hide (fun w => size_any w h wd hh6 hW)
    have hNb := size_le hh6 hW
    obtain ⟨N, hN⟩ : ∃ N, sizeOf h wd = N := ⟨_, rfl⟩
    rw [hN] at Hsz hNb
    have HFv : Hid (verifyB H pk msg sig = if N ≤ sg.length then
        if n = 0 then decide (sg.length = N) && holdsB H k msg sg
        else if isKey (sg.drop N) then holdsB H k (part sg N 56) (sg.take N) && verifyFrom H msg n (part sg N 56) (sg.drop (N + 56)) else false
      else false) := by
      show _ = _
      rw [unhide HF, verifyFrom, hhe, hwe, hN]
      have h56 : 56 ≤ k.length := by have := unhide Hk; omega
      by_cases hle : N ≤ sg.length
      · rw [if_pos hle, if_pos ⟨h56, hok.1, hok.2, hle⟩]
        rfl
      · rw [if_neg hle, if_neg (fun h => hle h.2.2.2)]
    have Hholds := hide (fun w (hb : Below w0.heap.size w0 w) (xm xs : Value) (m s : Bs) (hm : BytesAt w0 xm m) (hs : BytesAt w0 xs s) (lm : m.length ≤ 100000) (ls : N ≤ s.length) (ls2 : s.length ≤ 100000) => holds_any (unhide HC) w _ xm xs k m s ((unhide Bk).below hb) (hm.below hb) (hs.below hb) (by have := unhide Hk; omega) (by have := unhide Hk; omega) lm h wd hhe (by omega) hh6 hwe hW (by rw [hN]; exact ls) ls2)
    have Nb : (N : Int) ≤ 10000 := by omega
    have gb : (sg.length : Int) ≤ 100000 := by omega
    clear hhe hwe hok hb0 HF hW hN
    go_wp2_with fail
    refine (unhide Hsh).mono ?_
    rintro e w3 ⟨rfl, hb⟩
    have HB3 := hide ((unhide HB).trans (hb.mono (unhide HB).size))
    clear hb Hsh HB
    go_wp2_with fail
    refine (unhide Hsz w3).mono ?_
    rintro e wt ⟨rfl, hwt⟩
    rw [hwt]
    clear hwt wt
    by_cases hle : N ≤ sg.length
    case neg =>
      have dl : decide ((sg.length : Int) < (N : Int)) = true := by simp; omega
      have dl' : decide (sg.length < N) = true := by simp; omega
      have Hr : Hid (verifyB H pk msg sig = false) := by show _ = _; rw [unhide HFv, if_neg hle]
      clear hle HFv
      go_wp2
      go_ret
      exact ⟨by rw [unhide Hr]; rfl, unhide HB3⟩
    have dl : decide ((sg.length : Int) < (N : Int)) = false := by simp; omega
    have dl' : decide (sg.length < N) = false := by simp; omega
    rw [if_pos hle] at HFv
    go_wp2_with fail
    refine (unhide Hsz w3).mono ?_
    rintro e wt ⟨rfl, hwt⟩
    rw [hwt]
    clear hwt wt
    by_cases hn0 : n = 0
    · obtain rfl : i = L := by omega
      have di : ((i : Int) == (i : Int)) = true := by simp
      rw [if_pos hn0] at HFv
      by_cases hlN : sg.length = N
      · have dN : ((sg.length : Int) == (N : Int)) = true := by simp; omega
        rw [decide_eq_true hlN, Bool.true_and] at HFv
        have Hho := hide (unhide Hholds w3 (unhide HB3) xm _ msg sg (unhide HM) (unhide Bg) (unhide Hlm) (by omega) (by omega))
        clear hlN hn0 hle
        go_wp2_with fail
        refine (unhide Hho).mono ?_
        rintro e w4 ⟨rfl, hb⟩
        have HB4 := hide ((unhide HB3).trans (hb.mono (unhide HB3).size))
        clear hb
        go_wp2
        go_ret
        exact ⟨by rw [unhide HFv]; rfl, unhide HB4⟩
      · have dN : ((sg.length : Int) == (N : Int)) = false := by simp; omega
        rw [decide_eq_false hlN, Bool.false_and] at HFv
        clear hlN hn0 hle
        go_wp2
        go_ret
        exact ⟨by rw [unhide HFv]; rfl, unhide HB3⟩
    · have di : ((i : Int) == (L : Int)) = false := by simp; omega
      rw [if_neg hn0] at HFv
      obtain ⟨yr, sr, br⟩ := rest_val (unhide Bg) N hle
      have Hsh := hide (shape_is w3 yr (sg.drop N) (br.below (unhide HB3)) (by rw [List.length_drop]; omega))
      by_cases hik : isKey (sg.drop N)
      case neg =>
        rw [decide_eq_false hik] at Hsh
        rw [if_neg hik] at HFv
        clear hik hn0 br
        go_wp2_with fail
        refine (unhide Hsh).mono ?_
        rintro e w4 ⟨⟨a, c, rfl⟩, hb⟩
        have HB4 := hide ((unhide HB3).trans (hb.mono (unhide HB3).size))
        clear hb
        go_wp2
        go_region
        go_wp2
        go_ret
        exact ⟨by rw [unhide HFv]; rfl, (unhide HB4).drew⟩
      rw [decide_eq_true hik] at Hsh
      rw [if_pos hik] at HFv
      have hMl : N + 56 ≤ sg.length := by have h1 := hik.1; rw [List.length_drop] at h1; omega
      obtain ⟨M, hM⟩ : ∃ M, N + 56 = M := ⟨_, rfl⟩
      have hMw : IntKind.i64.wrap ((N : Int) + 56) = (M : Int) := by rw [IntWalk.i64_in _ (by omega)]; omega
      obtain ⟨yk, sk, bk⟩ := part_val (unhide Bg) hsc3 N 56 hMl
      obtain ⟨yf, sf, bf⟩ := front_val (unhide Bg) hsc3 N hle
      obtain ⟨yn, sn, bn⟩ := rest_val (unhide Bg) (N + 56) hMl
      rw [hM] at sk sn bn HFv
      have hsg4 : (sg.drop M).length ≤ 100000 := by rw [List.length_drop]; omega
      obtain ⟨sg2, hsg2⟩ : ∃ sg2, sg.drop M = sg2 := ⟨_, rfl⟩
      rw [hsg2] at bn HFv hsg4
      obtain ⟨sp4, sc4, rfl, hsc4, _, _⟩ := bytes_open bn
      have Bk2 := hide bk
      have Bf := hide bf
      have Bn := hide bn
      have Hk2 : Hid ((part sg N 56).length = 56) := by show _ = _; exact len_part _ _ _ hMl
      clear hsg2 hM hik br bk bf bn
      go_wp2_with fail
      refine (unhide Hsh).mono ?_
      rintro e w4 ⟨⟨a, c, rfl⟩, hb⟩
      have HB4 := hide ((unhide HB3).trans (hb.mono (unhide HB3).size))
      have HB4d := hide (unhide HB4).drew
      clear hb Hsh
      have Hho := hide (unhide Hholds w4.drew (unhide HB4d) yk yf (part sg N 56) (sg.take N) (unhide Bk2) (unhide Bf) (by have := unhide Hk2; omega) (by rw [List.length_take]; omega) (by rw [List.length_take]; omega))
      obtain ⟨bo, hbo⟩ : ∃ bo, holdsB H k (part sg N 56) (sg.take N) = bo := ⟨_, rfl⟩
      rw [hbo] at Hho HFv
      clear hbo
      cases bo with
      | false =>
        rw [Bool.false_and] at HFv
        go_wp2
        go_region_held3 (fun _ => True) (trivial)
          ((go_at_call 44; refine (unhide Hho).mono ?_; rintro e w5 ⟨rfl, hb⟩; have HB5 := hide ((unhide HB4d).trans (hb.mono (unhide HB4d).size)); clear hb))
        go_wp2
        go_ret
        exact ⟨by rw [unhide HFv]; rfl, unhide HB5⟩
      | true =>
        rw [Bool.true_and] at HFv
        go_wp2
        go_region_held3 (fun _ => True) (trivial)
          ((go_at_call 44; refine (unhide Hho).mono ?_; rintro e w5 ⟨rfl, hb⟩; have HB5 := hide ((unhide HB4d).trans (hb.mono (unhide HB4d).size)); clear hb))
        obtain ⟨n2, hn2⟩ : ∃ n2, n = n2 + 1 := ⟨n - 1, by omega⟩
        have HF6 : Hid (verifyB H pk msg sig = verifyFrom H msg (n2 + 1) (part sg N 56) sg2) := by show _ = _; rw [unhide HFv, hn2]
        clear HFv Hho HB4 HB4d HB3 Hholds
        go_wp2
        go_roundw
        case rel =>
          first
            | exact ⟨i + 1, n2, _, _, _, _, by omega, by omega, by go_num, rfl, hsc4, hsg4, Hk2, Bk2, Bn, HF6, HB5⟩
            | ((repeat apply Exists.intro); exact ⟨⟨i + 1, n2, _, _, _, _, by omega, by omega, by go_num, rfl, hsc4, hsg4, Hk2, Bk2, Bn, HF6, HB5⟩, rfl⟩)
        case measure => simp [intOf]; omega
end Go.Proofs.YtlhjifdahagkaaaDoor
