/-
  The walk of the statement LmsBytes.
-/
import Derived.Test.YtlhjifdahagkaaaDoorM05
import Derived.Test.YtlhjifdahagkaaaDoorVer7Z
namespace Go.Proofs.YtlhjifdahagkaaaDoor
open Go.RowKit
set_option maxRecDepth 100000 in
set_option maxHeartbeats 4000000 in
theorem bytes_true {R : World → Prop} {H : Bs → Bs} (C : Lms R H) (w0 : World) (hR : R w0) (xp xm xs : Value) (pk msg sig : Bs) (hp : BytesAt w0 xp pk) (hm : BytesAt w0 xm msg) (hs : BytesAt w0 xs sig)
    (lp : (pk.length : Int) ≤ 9223372036854775807) (lm : (msg.length : Int) ≤ 9223372036854775807) (ls : (sig.length : Int) ≤ 9223372036854775807) :
    Calls Tryd.prog 7 #[xp, xm, xs] w0 fun e w' => e = .returned (.bool true) ∧ Below w0.heap.size w0 w' := by
  have HC := hide C
  have HR0 := hide hR
  obtain ⟨spp, cp, rfl, _, _, _⟩ := bytes_open hp
  obtain ⟨spm, cm, rfl, _, _, _⟩ := bytes_open hm
  obtain ⟨sps, cs, rfl, _, _, _⟩ := bytes_open hs
  have HP := hide hp
  have HM := hide hm
  have HS := hide hs
  have Hanc := hide (anchor_any C w0 hR)
  clear C hR hp hm hs
  go_enter Tryd.func7, Tryd.ntmps7
  go_wp2_with fail
  refine (unhide Hanc).mono ?_
  rintro e w1 ⟨rfl, hb⟩
  have HB1 := hide hb
  clear hb Hanc
  by_cases l1 : 200 < pk.length
  · have e1 : decide ((200 : Int) < (pk.length : Int)) = true := by simp; omega
    have e1' : decide (200 < pk.length) = true := by simp; omega
    go_wp2
    go_ret
    exact ⟨rfl, unhide HB1⟩
  have e1 : decide ((200 : Int) < (pk.length : Int)) = false := by simp; omega
  have e1' : decide (200 < pk.length) = false := by simp; omega
  by_cases l2 : 500 < msg.length
  · have e2 : decide ((500 : Int) < (msg.length : Int)) = true := by simp; omega
    have e2' : decide (500 < msg.length) = true := by simp; omega
    go_wp2
    go_ret
    exact ⟨rfl, unhide HB1⟩
  have e2 : decide ((500 : Int) < (msg.length : Int)) = false := by simp; omega
  have e2' : decide (500 < msg.length) = false := by simp; omega
  by_cases l3 : 20000 < sig.length
  · have e3 : decide ((20000 : Int) < (sig.length : Int)) = true := by simp; omega
    have e3' : decide (20000 < sig.length) = true := by simp; omega
    go_wp2
    go_ret
    exact ⟨rfl, unhide HB1⟩
  have e3 : decide ((20000 : Int) < (sig.length : Int)) = false := by simp; omega
  have e3' : decide (20000 < sig.length) = false := by simp; omega
  have Hlv := hide ((unhide HC).anyLeaves w1 _ sig ((unhide HC).below w0 w1 (unhide HR0) (unhide HB1)) ((unhide HS).below (unhide HB1)) (by omega))
  go_wp2_with fail
  refine (unhide Hlv).mono ?_
  rintro e w2 ⟨v2, ok, l, rfl, hO, hor, hb⟩
  obtain ⟨sp2, c2, rfl⟩ := OwnV.form hO
  have HB2 := hide ((unhide HB1).trans (hb.mono (unhide HB1).size))
  have Hor := hide hor
  clear hO hor hb Hlv
  have Hv1 := hide ((unhide HC).verify w2 _ _ _ pk msg sig ((unhide HC).below w0 w2 (unhide HR0) (unhide HB2)) ((unhide HP).below (unhide HB2)) ((unhide HM).below (unhide HB2)) ((unhide HS).below (unhide HB2)) (by omega) (by omega) (by omega))
  have Hv2 := hide (fun w (hb : Below w0.heap.size w0 w) => verify_ref (unhide HC).hash w _ _ _ pk msg sig ((unhide HP).below hb) ((unhide HM).below hb) ((unhide HS).below hb) (by omega) (by omega))
  obtain ⟨bo, hbo⟩ : ∃ bo, verifyB H pk msg sig = bo := ⟨_, rfl⟩
  rw [hbo] at Hv1 Hv2
  clear hbo
  have eb : (bo == bo) = true := by simp
  go_wp2_with fail
  refine (unhide Hv1).mono ?_
  rintro e w3 ⟨rfl, hb⟩
  have HB3 := hide ((unhide HB2).trans (hb.mono (unhide HB2).size))
  clear hb Hv1
  go_wp2_with fail
  refine (unhide Hv2 w3 (unhide HB3)).mono ?_
  rintro e w4 ⟨rfl, hb⟩
  have HB4 := hide ((unhide HB3).trans (hb.mono (unhide HB3).size))
  clear hb Hv2
  cases ok with
  | true =>
    go_wp2
    go_ret
    exact ⟨rfl, unhide HB4⟩
  | false =>
    obtain rfl : l = [] := by rcases unhide Hor with h | h
                              · cases h
                              · exact h
    go_wp2
    go_ret
    exact ⟨rfl, unhide HB4⟩
end Go.Proofs.YtlhjifdahagkaaaDoor
