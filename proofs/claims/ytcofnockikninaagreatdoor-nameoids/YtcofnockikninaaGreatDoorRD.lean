/-
  The walk of the reference's right: the tags whose bytes are gone through (6, 19, 22).
-/
import Derived.Test.YtcofnockikninaaGreatDoorRB
import Derived.Test.YtcofnockikninaaGreatDoorRA
import Derived.Test.YtcofnockikninaaGreatDoorRT
import Derived.Test.YtcofnockikninaaGreatDoorDwr
import Derived.Test.YtcofnockikninaaGreatDoorRC
import Derived.Deep.Cut
namespace Go.Proofs.YtcofnockikninaaGreatDoor
open Go.RowKit
theorem right19 (b : Bs) : rightP 19 b = b.all printP := by
  unfold rightP
  rw [if_neg (by omega), if_neg (by omega), if_neg (by omega), if_neg (by omega), if_neg (by omega), if_neg (by omega), if_pos rfl]
theorem right22 (b : Bs) : rightP 22 b = b.all fun c => decide (c.toNat < 128) := by
  unfold rightP
  rw [if_neg (by omega), if_neg (by omega), if_neg (by omega), if_neg (by omega), if_neg (by omega), if_neg (by omega), if_neg (by omega), if_pos rfl]
theorem right6 (b : Bs) : rightP 6 b = oidP b := by
  unfold rightP
  rw [if_neg (by omega), if_neg (by omega), if_neg (by omega), if_neg (by omega), if_pos rfl]
theorem all_not {b : Bs} {f : UInt8 → Bool} {k : Nat} (hk : k < b.length) (h : f (b.getD k 0) = false) : b.all f = false := by
  rw [List.all_eq_false]
  refine ⟨b.getD k 0, ?_, by rw [h]; simp⟩
  rw [List.getD_eq_getElem?_getD, List.getElem?_eq_getElem hk, Option.getD_some]
  exact List.getElem_mem hk
theorem all_all {b : Bs} {f : UInt8 → Bool} (h : ∀ k, k < b.length → f (b.getD k 0) = true) : b.all f = true := by
  rw [List.all_eq_true]
  intro c hc
  obtain ⟨k, hk, rfl⟩ := List.getElem_of_mem hc
  have := h k hk
  rwa [List.getD_eq_getElem?_getD, List.getElem?_eq_getElem hk, Option.getD_some] at this
/-- A group's beginning that is nought. -/
def badAt (b : Bs) (i : Nat) : Bool := decide ((b.getD i 0).toNat = 128) && (decide (i = 0) || decide ((b.getD (i - 1) 0).toNat < 128))
theorem oidP_eq (b : Bs) : oidP b = (((List.range b.length).all fun i => !badAt b i) && decide (0 < b.length) && decide ((b.getD (b.length - 1) 0).toNat < 128)) := by
  unfold oidP badAt
  congr 2
  congr 1
  funext i
  rw [← u8_dec _ 128 (by omega)]
  rfl
theorem oid_bad {b : Bs} {k : Nat} (hk : k < b.length) (h : badAt b k = true) : oidP b = false := by
  rw [oidP_eq]
  have : ((List.range b.length).all fun i => !badAt b i) = false := by
    rw [List.all_eq_false]
    exact ⟨k, List.mem_range.2 hk, by rw [h]; simp⟩
  rw [this]
  rfl
theorem oid_good {b : Bs} (h : ∀ k, k < b.length → badAt b k = false) : oidP b = (decide (0 < b.length) && decide ((b.getD (b.length - 1) 0).toNat < 128)) := by
  rw [oidP_eq]
  have : ((List.range b.length).all fun i => !badAt b i) = true := by
    rw [List.all_eq_true]
    intro k hk
    rw [h k (List.mem_range.1 hk)]
    rfl
  rw [this]
  rfl
set_option maxRecDepth 100000 in
set_option maxHeartbeats 4000000 in
theorem right_22 (w : World) (x : Value) (b : Bs) (hx : BytesAt w x b) (hl : b.length ≤ 100000) :
    Calls Tryz.prog 163 #[.int .i64 22, x] w fun e w' => e = .returned (.bool (rightP 22 b)) ∧ Below w.heap.size w w' := by
  have HR := hide (right22 b)
  obtain ⟨sp, c, rfl, _, _, _⟩ := bytes_open hx
  obtain ⟨N, hN⟩ : ∃ N, b.length = N := ⟨_, rfl⟩
  have HN := hide hN
  rw [hN] at hx hl ⊢
  have HX := hide hx
  have Hb := hide (Below.refl w.heap.size w)
  clear hx hN
  go_enter Tryz.func163, Tryz.ntmps163
  go_wp2
  go_loopw [8] (fun ii wr => ∃ k : Nat, k ≤ N ∧ ii = .int .i64 (k : Int) ∧ wr = w ∧ Hid (∀ j, j < k → decide ((b.getD j 0).toNat < 128) = true)) (fun ii _ => N - (intOf ii).toNat)
  case atStart => exact ⟨0, by omega, rfl, rfl, fun j hj => by omega⟩
  case round =>
    obtain ⟨k, hk, rfl, hwr, HE⟩ := hrel
    have := hwr.symm
    subst this
    by_cases hlt : k < N
    · obtain ⟨ba, oa, p, rfl, hp, hpb, hc⟩ := byte_at (unhide HX) (unhide HN) k hlt
      have Hp := hide hp
      have d1 : decide ((k : Int) < (N : Int)) = true := by simp; omega
      have d1n : decide (k < N) = true := by simp; omega
      have k0 : (0 : Int) ≤ (k : Int) := by omega
      have k1 : (k : Int) < (N : Int) := by omega
      clear hp
      by_cases h128 : 128 ≤ p
      · have HT : Hid (rightP 22 b = false) := by show _ = _; rw [unhide HR]; exact all_not (by rw [unhide HN]; exact hlt) (by rw [unhide Hp]; simp; omega)
        have d2 : decide ((128 : Int) ≤ (p : Int)) = true := by simp; omega
        have d2n : decide (128 ≤ p) = true := by simp; omega
        clear HE HR
        go_wp2
        go_ret
        exact ⟨by rw [unhide HT]; rfl, unhide Hb⟩
      · have HE2 : Hid (∀ j, j < k + 1 → decide ((b.getD j 0).toNat < 128) = true) := fun j hj => by
          by_cases e : j = k
          · rw [e, unhide Hp]; simp; omega
          · exact unhide HE j (by omega)
        have d2 : decide ((128 : Int) ≤ (p : Int)) = false := by simp; omega
        have d2n : decide (128 ≤ p) = false := by simp; omega
        clear HE HR
        go_wp2
        go_roundw
        case rel =>
          first
            | exact ⟨k + 1, by omega, by go_num, rfl, HE2⟩
            | exact ⟨k + 1, by omega, by go_num, trivial, HE2⟩
            | ((repeat apply Exists.intro); exact ⟨⟨k + 1, by omega, by go_num, rfl, HE2⟩, rfl⟩)
            | ((repeat apply Exists.intro); exact ⟨⟨k + 1, by omega, by go_num, trivial, HE2⟩, rfl⟩)
        case measure => simp [intOf]; omega
    · obtain rfl : k = N := by omega
      have d1 : decide ((k : Int) < (k : Int)) = false := by simp
      have HT : Hid (rightP 22 b = true) := by show _ = _; rw [unhide HR]; exact all_all (fun j hj => unhide HE j (by rw [← unhide HN]; exact hj))
      clear HE HR
      go_wp2
      go_ret
      exact ⟨by rw [unhide HT]; rfl, unhide Hb⟩
set_option maxRecDepth 100000 in
set_option maxHeartbeats 4000000 in
theorem right_19 (w : World) (x : Value) (b : Bs) (hx : BytesAt w x b) (hl : b.length ≤ 100000) :
    Calls Tryz.prog 163 #[.int .i64 19, x] w fun e w' => e = .returned (.bool (rightP 19 b)) ∧ Below w.heap.size w w' := by
  have HR := hide (right19 b)
  obtain ⟨sp, c, rfl, _, _, _⟩ := bytes_open hx
  obtain ⟨N, hN⟩ : ∃ N, b.length = N := ⟨_, rfl⟩
  have HN := hide hN
  rw [hN] at hx hl ⊢
  have HX := hide hx
  have Hb := hide (Below.refl w.heap.size w)
  clear hx hN
  go_enter Tryz.func163, Tryz.ntmps163
  go_wp2
  go_loopw [7] (fun ii wr => ∃ k : Nat, k ≤ N ∧ ii = .int .i64 (k : Int) ∧ wr = w ∧ Hid (∀ j, j < k → printP (b.getD j 0) = true)) (fun ii _ => N - (intOf ii).toNat)
  case atStart => exact ⟨0, by omega, rfl, rfl, fun j hj => by omega⟩
  case round =>
    obtain ⟨k, hk, rfl, hwr, HE⟩ := hrel
    have := hwr.symm
    subst this
    by_cases hlt : k < N
    · obtain ⟨ba, oa, p, rfl, hp, hpb, hc⟩ := byte_at (unhide HX) (unhide HN) k hlt
      have Hpr := hide (print_any (b.getD k 0) w)
      unfold bv at Hpr
      rw [hp] at Hpr
      have d1 : decide ((k : Int) < (N : Int)) = true := by simp; omega
      have d1n : decide (k < N) = true := by simp; omega
      have k0 : (0 : Int) ≤ (k : Int) := by omega
      have k1 : (k : Int) < (N : Int) := by omega
      obtain ⟨u, hu⟩ : ∃ u, printP (b.getD k 0) = u := ⟨_, rfl⟩
      have Hu := hide hu
      rw [hu] at Hpr
      clear hp hu
      go_wp2_with fail
      refine (unhide Hpr).mono ?_
      rintro e w1 ⟨rfl, rfl⟩
      cases u with
      | false =>
        have HT : Hid (rightP 19 b = false) := by show _ = _; rw [unhide HR]; exact all_not (by rw [unhide HN]; exact hlt) (unhide Hu)
        clear HE HR Hpr
        go_wp2
        go_ret
        exact ⟨by rw [unhide HT]; rfl, unhide Hb⟩
      | true =>
        have HE2 : Hid (∀ j, j < k + 1 → printP (b.getD j 0) = true) := fun j hj => by
          by_cases e : j = k
          · rw [e]; exact unhide Hu
          · exact unhide HE j (by omega)
        clear HE HR Hpr
        go_wp2
        go_roundw
        case rel =>
          first
            | exact ⟨k + 1, by omega, by go_num, rfl, HE2⟩
            | exact ⟨k + 1, by omega, by go_num, trivial, HE2⟩
            | ((repeat apply Exists.intro); exact ⟨⟨k + 1, by omega, by go_num, rfl, HE2⟩, rfl⟩)
            | ((repeat apply Exists.intro); exact ⟨⟨k + 1, by omega, by go_num, trivial, HE2⟩, rfl⟩)
        case measure => simp [intOf]; omega
    · obtain rfl : k = N := by omega
      have d1 : decide ((k : Int) < (k : Int)) = false := by simp
      have HT : Hid (rightP 19 b = true) := by show _ = _; rw [unhide HR]; exact all_all (fun j hj => unhide HE j (by rw [← unhide HN]; exact hj))
      clear HE HR
      go_wp2
      go_ret
      exact ⟨by rw [unhide HT]; rfl, unhide Hb⟩
set_option maxRecDepth 100000 in
set_option maxHeartbeats 4000000 in
theorem right_6 (w : World) (x : Value) (b : Bs) (hx : BytesAt w x b) (hl : b.length ≤ 100000) :
    Calls Tryz.prog 163 #[.int .i64 6, x] w fun e w' => e = .returned (.bool (rightP 6 b)) ∧ Below w.heap.size w w' := by
  have HR := hide (right6 b)
  obtain ⟨sp, c, rfl, _, _, _⟩ := bytes_open hx
  obtain ⟨N, hN⟩ : ∃ N, b.length = N := ⟨_, rfl⟩
  have HN := hide hN
  rw [hN] at hx hl ⊢
  have HX := hide hx
  have Hb := hide (Below.refl w.heap.size w)
  clear hx hN
  go_enter Tryz.func163, Tryz.ntmps163
  go_wp2
  go_loopw [6] (fun ii wr => ∃ k : Nat, k ≤ N ∧ ii = .int .i64 (k : Int) ∧ wr = w ∧ Hid (∀ j, j < k → badAt b j = false)) (fun ii _ => N - (intOf ii).toNat)
  case atStart => exact ⟨0, by omega, rfl, rfl, fun j hj => by omega⟩
  case round =>
    obtain ⟨k, hk, rfl, hwr, HE⟩ := hrel
    have := hwr.symm
    subst this
    by_cases hlt : k < N
    · obtain ⟨ba, oa, p, rfl, hp, hpb, hc⟩ := byte_at (unhide HX) (unhide HN) k hlt
      have Hp := hide hp
      have d1 : decide ((k : Int) < (N : Int)) = true := by simp; omega
      have d1n : decide (k < N) = true := by simp; omega
      have k0 : (0 : Int) ≤ (k : Int) := by omega
      have k1 : (k : Int) < (N : Int) := by omega
      have HE2 : badAt b k = false → Hid (∀ j, j < k + 1 → badAt b j = false) := fun hbad j hj => by
        by_cases e : j = k
        · rw [e]; exact hbad
        · exact unhide HE j (by omega)
      clear hp
      by_cases h128 : p = 128
      · subst h128
        by_cases hk0 : k = 0
        · subst hk0
          have HT : Hid (rightP 6 b = false) := by show _ = _; rw [unhide HR]; exact oid_bad (by rw [unhide HN]; exact hlt) (by unfold badAt; rw [unhide Hp]; rfl)
          rw [Nat.add_zero] at hc
          clear HE HR HE2
          go_wp2
          go_ret
          exact ⟨by rw [unhide HT]; rfl, unhide Hb⟩
        · obtain ⟨K, hK⟩ : ∃ K, k - 1 = K := ⟨_, rfl⟩
          obtain ⟨ba', oa', q, e, hq, hqb, hc2⟩ := byte_at (unhide HX) (unhide HN) K (by omega)
          simp only [Option.some.injEq, Addr.mk.injEq, and_true] at e
          obtain ⟨rfl, rfl⟩ := e
          have eK : (k : Int) - 1 = (K : Int) := by omega
          have K0 : (0 : Int) ≤ (K : Int) := by omega
          have K1 : (K : Int) < (N : Int) := by omega
          have e0 : ((k : Int) == 0) = false := by simp; omega
          have hbad : badAt b k = decide (q < 128) := by
            unfold badAt
            rw [unhide Hp, hK, hq, decide_eq_false hk0]
            simp
          by_cases hq128 : q < 128
          · have HT : Hid (rightP 6 b = false) := by show _ = _; rw [unhide HR]; exact oid_bad (by rw [unhide HN]; exact hlt) (by rw [hbad]; simp; omega)
            have d2 : decide ((q : Int) < 128) = true := by simp; omega
            have d2n : decide (q < 128) = true := by simp; omega
            clear HE HR HE2 hbad hq hK
            go_wp2
            go_ret
            exact ⟨by rw [unhide HT]; rfl, unhide Hb⟩
          · have HE3 := HE2 (by rw [hbad]; simp; omega)
            have d2 : decide ((q : Int) < 128) = false := by simp; omega
            have d2n : decide (q < 128) = false := by simp; omega
            clear HE HR HE2 hbad hq hK
            go_wp2
            go_roundw
            case rel =>
              first
                | exact ⟨k + 1, by omega, by go_num, rfl, HE3⟩
                | exact ⟨k + 1, by omega, by go_num, trivial, HE3⟩
                | ((repeat apply Exists.intro); exact ⟨⟨k + 1, by omega, by go_num, rfl, HE3⟩, rfl⟩)
                | ((repeat apply Exists.intro); exact ⟨⟨k + 1, by omega, by go_num, trivial, HE3⟩, rfl⟩)
            case measure => simp [intOf]; omega
      · have HE3 := HE2 (by unfold badAt; rw [unhide Hp, decide_eq_false h128]; rfl)
        have d2 : ((p : Int) == 128) = false := by simp; omega
        clear HE HR HE2
        go_wp2
        go_roundw
        case rel =>
          first
            | exact ⟨k + 1, by omega, by go_num, rfl, HE3⟩
            | exact ⟨k + 1, by omega, by go_num, trivial, HE3⟩
            | ((repeat apply Exists.intro); exact ⟨⟨k + 1, by omega, by go_num, rfl, HE3⟩, rfl⟩)
            | ((repeat apply Exists.intro); exact ⟨⟨k + 1, by omega, by go_num, trivial, HE3⟩, rfl⟩)
        case measure => simp [intOf]; omega
    · obtain rfl : k = N := by omega
      have d1 : decide ((k : Int) < (k : Int)) = false := by simp
      have HT : Hid (rightP 6 b = (decide (0 < k) && decide ((b.getD (k - 1) 0).toNat < 128))) := by
        show _ = _
        rw [unhide HR, oid_good (fun j hj => unhide HE j (by rw [← unhide HN]; exact hj)), unhide HN]
      clear HE HR
      by_cases hk0 : k = 0
      · subst hk0
        go_wp2
        go_ret
        exact ⟨by rw [unhide HT]; rfl, unhide Hb⟩
      · obtain ⟨K, hK⟩ : ∃ K, k - 1 = K := ⟨_, rfl⟩
        obtain ⟨ba, oa, q, rfl, hq, hqb, hc2⟩ := byte_at (unhide HX) (unhide HN) K (by omega)
        have eK : (k : Int) - 1 = (K : Int) := by omega
        have K0 : (0 : Int) ≤ (K : Int) := by omega
        have K1 : (K : Int) < (k : Int) := by omega
        have kb : (k : Int) ≤ 100000 := by omega
        have d2 : decide ((0 : Int) < (k : Int)) = true := by simp; omega
        have d2n : decide (0 < k) = true := by simp; omega
        rw [hK, hq, d2n] at HT
        clear hq hK
        by_cases hq128 : q < 128
        · have d3 : decide ((q : Int) < 128) = true := by simp; omega
          have d3n : decide (q < 128) = true := by simp; omega
          rw [d3n] at HT
          go_wp2
          go_ret
          exact ⟨by rw [unhide HT]; rfl, unhide Hb⟩
        · have d3 : decide ((q : Int) < 128) = false := by simp; omega
          have d3n : decide (q < 128) = false := by simp; omega
          rw [d3n] at HT
          go_wp2
          go_ret
          exact ⟨by rw [unhide HT]; rfl, unhide Hb⟩
end Go.Proofs.YtcofnockikninaaGreatDoor
/-
  The walk of the reference's right: texts and times (12, 23, 24); all tags.
-/
namespace Go.Proofs.YtcofnockikninaaGreatDoor
open Go.RowKit
theorem right12 (b : Bs) : rightP 12 b = utf8P b.length b := by
  unfold rightP
  rw [if_neg (by omega), if_neg (by omega), if_neg (by omega), if_neg (by omega), if_neg (by omega), if_pos rfl]
theorem right23 (b : Bs) : rightP 23 b = timeP 2 b := by
  unfold rightP
  rw [if_neg (by omega), if_neg (by omega), if_neg (by omega), if_neg (by omega), if_neg (by omega), if_neg (by omega), if_neg (by omega), if_neg (by omega), if_pos rfl]
theorem right24 (b : Bs) : rightP 24 b = timeP 4 b := by
  unfold rightP
  rw [if_neg (by omega), if_neg (by omega), if_neg (by omega), if_neg (by omega), if_neg (by omega), if_neg (by omega), if_neg (by omega), if_neg (by omega), if_neg (by omega), if_pos rfl]
theorem six_lit (q : Nat → Nat) : (six q).toArray = #[.int .i64 (q 0 : Int), .int .i64 (q 1 : Int), .int .i64 (q 2 : Int), .int .i64 (q 3 : Int), .int .i64 (q 4 : Int), .int .i64 (q 5 : Int)] := rfl
set_option maxRecDepth 100000 in
set_option maxHeartbeats 4000000 in
theorem right_12 (w : World) (x : Value) (b : Bs) (hx : BytesAt w x b) (hl : b.length ≤ 100000) :
    Calls Tryz.prog 163 #[.int .i64 12, x] w fun e w' => e = .returned (.bool (rightP 12 b)) ∧ Below w.heap.size w w' := by
  have HU := hide (utf8s_any w x b hx (by omega))
  rw [← right12] at HU
  obtain ⟨sp, c, rfl, _, _, _⟩ := bytes_open hx
  obtain ⟨N, hN⟩ : ∃ N, b.length = N := ⟨_, rfl⟩
  obtain ⟨r, hr⟩ : ∃ r, rightP 12 b = r := ⟨_, rfl⟩
  rw [hN, hr] at HU ⊢
  have Hb := hide (Below.refl w.heap.size w)
  clear hx hN hr hl
  go_enter Tryz.func163, Tryz.ntmps163
  go_wp2_with fail
  refine (unhide HU).mono ?_
  rintro e w1 ⟨rfl, rfl⟩
  go_wp2
  go_ret
  exact ⟨rfl, unhide Hb⟩
set_option maxRecDepth 100000 in
set_option maxHeartbeats 4000000 in
theorem right_23 (w : World) (x : Value) (b : Bs) (hx : BytesAt w x b) (hl : b.length ≤ 100000) :
    Calls Tryz.prog 163 #[.int .i64 23, x] w fun e w' => e = .returned (.bool (rightP 23 b)) ∧ Below w.heap.size w w' := by
  have HU := hide (time_2 w x b hx (by omega))
  rw [← right23] at HU
  obtain ⟨sp, c, rfl, _, _, _⟩ := bytes_open hx
  obtain ⟨N, hN⟩ : ∃ N, b.length = N := ⟨_, rfl⟩
  obtain ⟨r, hr⟩ : ∃ r, rightP 23 b = r := ⟨_, rfl⟩
  rw [hN, hr] at HU ⊢
  clear hx hN hr hl
  go_enter Tryz.func163, Tryz.ntmps163
  go_wp2_with fail
  refine (unhide HU).mono ?_
  rintro e w1 ⟨q, rfl, _, hb⟩
  rw [six_lit]
  have Hb := hide hb
  clear hb HU
  go_wp2
  go_ret
  exact ⟨rfl, (unhide Hb).alloc (unhide Hb).size _⟩
set_option maxRecDepth 100000 in
set_option maxHeartbeats 4000000 in
theorem right_24 (w : World) (x : Value) (b : Bs) (hx : BytesAt w x b) (hl : b.length ≤ 100000) :
    Calls Tryz.prog 163 #[.int .i64 24, x] w fun e w' => e = .returned (.bool (rightP 24 b)) ∧ Below w.heap.size w w' := by
  have HU := hide (time_4 w x b hx (by omega))
  rw [← right24] at HU
  obtain ⟨sp, c, rfl, _, _, _⟩ := bytes_open hx
  obtain ⟨N, hN⟩ : ∃ N, b.length = N := ⟨_, rfl⟩
  obtain ⟨r, hr⟩ : ∃ r, rightP 24 b = r := ⟨_, rfl⟩
  rw [hN, hr] at HU ⊢
  clear hx hN hr hl
  go_enter Tryz.func163, Tryz.ntmps163
  go_wp2_with fail
  refine (unhide HU).mono ?_
  rintro e w1 ⟨q, rfl, _, hb⟩
  rw [six_lit]
  have Hb := hide hb
  clear hb HU
  go_wp2
  go_ret
  exact ⟨rfl, (unhide Hb).alloc (unhide Hb).size _⟩
/-- The reference's right tells what the plain words say. -/
theorem rights : Rights := fun w t x b ht hx hl => by
  have h : t = 1 ∨ t = 2 ∨ t = 3 ∨ t = 4 ∨ t = 5 ∨ t = 6 ∨ t = 10 ∨ t = 12 ∨ t = 19 ∨ t = 22 ∨ t = 23 ∨ t = 24 := by
    simp only [plainT, Bool.or_eq_true, Bool.and_eq_true, decide_eq_true_eq] at ht
    omega
  rcases h with rfl | rfl | rfl | rfl | rfl | rfl | rfl | rfl | rfl | rfl | rfl | rfl
  · exact right_1 w x b hx
  · exact right_2 2 (Or.inl rfl) w x b hx
  · exact right_3 w x b hx hl
  · exact right_4 w x b hx
  · exact right_5 w x b hx
  · exact right_6 w x b hx hl
  · exact right_2 10 (Or.inr rfl) w x b hx
  · exact right_12 w x b hx hl
  · exact right_19 w x b hx hl
  · exact right_22 w x b hx hl
  · exact right_23 w x b hx hl
  · exact right_24 w x b hx hl
end Go.Proofs.YtcofnockikninaaGreatDoor
/-
  The walk of the reference's write.
-/
namespace Go.Proofs.YtcofnockikninaaGreatDoor
open Go.RowKit
/-- Writing at a depth. -/
def Writes (f : Nat) : Prop := ∀ (n : Nat) (S : Nat → Prop) (v : DV) (w : World) (cs : List Value) (d : Nat), d + f = 17 → VAt n S w cs v → weight v ≤ 100000 → Calls Tryz.prog 106 #[.agg cs.toArray, .int .i64 (d : Int)] w fun e w' => ∃ x, e = .returned (.tuple #[x, .int .i64 (errOf (writeP formD f v) : Int)]) ∧ OwnB w' w.heap.size x (bytesOf (writeP formD f v)) ∧ Below w.heap.size w w'
set_option maxRecDepth 100000 in
set_option maxHeartbeats 4000000 in
theorem writes_zero : Writes 0 := fun n S v w cs d hd hv hw => by
  obtain ⟨p1, q1, p2, q2, rfl⟩ := hv.form
  unfold dcells
  obtain rfl : d = 17 := by omega
  obtain ⟨kc, hkc⟩ : ∃ kc, v.cls = kc := ⟨_, rfl⟩
  obtain ⟨kt, hkt⟩ : ∃ kt, v.tag = kt := ⟨_, rfl⟩
  obtain ⟨km, hkm⟩ : ∃ km, v.made = km := ⟨_, rfl⟩
  obtain ⟨kl, hkl⟩ : ∃ kl, v.bytes.length = kl := ⟨_, rfl⟩
  obtain ⟨kk, hkk⟩ : ∃ kk, v.kids.length = kk := ⟨_, rfl⟩
  simp only [hkc, hkt, hkm, hkl, hkk]
  have Hb : Hid (Below w.heap.size w (w.alloc (.cells #[.int .i64 kc, .int .i64 kt, .bool km, .slice p1 kl q1, .slice p2 kk q2] 33))) := (Below.refl _ _).alloc (Nat.le_refl _) _
  clear hkc hkt hkm hkl hkk hv hw hd
  go_enter Tryz.func106, Tryz.ntmps106
  go_wp2
  exact bodyPost_ret (v := .tuple #[.slice none 0 0, .int .i64 23]) (by simp [results, Tryz.results106, go_sem]) rfl ⟨_, rfl, ownb_nil _ _, unhide Hb⟩
/-- Kids that were written so far: dn; the body's row, the last one's bytes. -/
structure WAt (f : Nat) (ks : List DV) (bs : Bs) (w2 wr : World) (sB : Option Addr) (nB cB : Nat) (lv : Value) (lx : Bs) (fl : Bool) (dn : List Bs) (i : Nat) : Prop where
  row : Row w2 wr (.slice sB nB cB) (bs ++ dn.flatten)
  nb : (bs ++ dn.flatten).length = nB
  last : OwnB wr w2.heap.size lv lx
  ap : Apart (.slice sB nB cB) lv
  lst : (dn = [] ∧ lx = []) ∨ ∃ d0, dn = d0 ++ [lx]
  len : dn.length = i
  fl : fl = fallsP dn
  told : allP (writeP formD f) ks = prepA dn (allP (writeP formD f) (ks.drop i))
  took : allP (writeP formD f) (ks.take i) = .yes dn
theorem WAt.add {f : Nat} {ks : List DV} {bs : Bs} {w2 wr w7 : World} {sB : Option Addr} {nB cB : Nat} {lv : Value} {lx : Bs} {fl : Bool} {dn : List Bs} {i : Nat} {k : DV} {y : Bs} {Y : Nat} {s7 : Option Addr} {c7 : Nat} {x5 : Value} {fl' : Bool} (h : WAt f ks bs w2 wr sB nB cB lv lx fl dn i) (hik : ks[i]? = some k) (hy : writeP formD f k = .yes y)
    (hr : Row w2 w7 (.slice s7 (nB + Y) c7) (bs ++ dn.flatten ++ y)) (hY : y.length = Y) (ho : OwnB w7 w2.heap.size x5 y) (hap : Apart (.slice s7 (nB + Y) c7) x5) (hfl : fl' = fallsP (dn ++ [y])) : WAt f ks bs w2 w7 s7 (nB + Y) c7 x5 y fl' (dn ++ [y]) (i + 1) := by
  have e : bs ++ (dn ++ [y]).flatten = bs ++ dn.flatten ++ y := by simp
  refine ⟨by rw [e]; exact hr, by rw [e, List.length_append, h.nb, hY], ho, hap, Or.inr ⟨dn, rfl⟩, by rw [List.length_append, h.len]; rfl, hfl, ?_, all_snoc h.took hik hy⟩
  rw [h.told, all_yes dn hik hy]
set_option maxRecDepth 100000 in
set_option maxHeartbeats 20000000 in
theorem writes_succ (f : Nat) (ih : Writes f) : Writes (f + 1) := fun n S v w cs d hd hv hw => by
  cases n with
  | zero => exact hv.elim
  | succ n =>
  have Hih := hide ih
  obtain ⟨c, t, md, bs, ks⟩ := v
  obtain ⟨xa, sa, na, rfl, hxa, hxs, ⟨hbl, hkl⟩, _, _, hka⟩ := hv
  simp only [DV.cls, DV.tag, DV.made, DV.bytes, DV.kids] at *
  have hwb : bs.length ≤ 100000 ∧ ks.length ≤ 100000 ∧ weights ks ≤ 100000 ∧ ∀ (i : Nat) (k : DV), ks[i]? = some k → weight k ≤ 100000 := by
    have h1 := weights_len ks
    simp only [weight] at hw
    exact ⟨by omega, by omega, by omega, fun i k hik => by have := weight_kid hik; omega⟩
  obtain ⟨hbl2, hkl2, hkws, hkw⟩ := hwb
  have Hkw := hide hkw
  have Hkws := hide hkws
  have HU := hide (write_unf f c t md bs ks)
  obtain ⟨spa, cpa, rfl, _, _, _⟩ := bytes_open hxa
  unfold dcells
  obtain ⟨w1, hw1⟩ : ∃ w1, w.alloc (.cells #[.int .i64 c, .int .i64 t, .bool md, .slice spa bs.length cpa, .slice sa ks.length na] 33) = w1 := ⟨_, rfl⟩
  have hb1 : Below w.heap.size w w1 := by rw [← hw1]; exact (Below.refl _ _).alloc (Nat.le_refl _) _
  have Hb1 := hide hb1
  have hc1 : CellsAt w1 w.heap.size 0 (dcells c t md (.slice spa bs.length cpa) (.slice sa ks.length na)) := by rw [← hw1]; exact cells_new w _ 33
  have HRA : Hid (w1.heap[w.heap.size]? = some (.cells #[.int .i64 c, .int .i64 t, .bool md, .slice spa bs.length cpa, .slice sa ks.length na] 33 (0, 0))) := by show _ = _; rw [← hw1]; exact heap_alloc_new w _
  have HXA := hide (hxa.below hb1)
  have HKA := hide hka
  obtain ⟨L, hL⟩ : ∃ L, bs.length = L := ⟨_, rfl⟩
  obtain ⟨K, hK⟩ : ∃ K, ks.length = K := ⟨_, rfl⟩
  obtain ⟨A, hA⟩ : ∃ A, w.heap.size = A := ⟨_, rfl⟩
  have HL := hide hL
  have HK := hide hK
  have HA := hide hA
  rw [hL, hK] at hw1 hc1 HRA
  rw [hL] at HXA HU hbl2
  rw [hK] at HU hkl2
  rw [hA] at hc1 HRA
  have hsz5 : (Tryz.prog.info? 33).map (·.size) = some 5 := by kernel_rfl
  have HC : Hid (∀ w', Below w1.heap.size w1 w' → w'.cell? ⟨A, 0, none⟩ = some (.int .i64 c) ∧ w'.cell? ⟨A, 1, none⟩ = some (.int .i64 t) ∧ w'.cell? ⟨A, 2, none⟩ = some (.bool md) ∧ w'.cell? ⟨A, 3, none⟩ = some (.slice spa L cpa) ∧ w'.cell? ⟨A, 4, none⟩ = some (.slice sa K na)) := fun w' hb => (hc1.below hb).five0
  obtain ⟨a0, a1, a2, a3, a4⟩ := unhide HC w1 (Below.refl _ _)
  have x16 : decide ((16 : Int) < (d : Int)) = false := by simp; omega
  have x16n : decide (16 < d) = false := by simp; omega
  have db : (d : Int) ≤ 17 := by omega
  have Hd := hide hd
  have Lb : (L : Int) ≤ 100000 := by omega
  have Kb : (K : Int) ≤ 100000 := by omega
  simp only [hL, hK]
  clear ih hxa hxs hka hkw hkws hb1 hc1 hw hL hK hbl hkl hd
  -- what is refused at once
  by_cases hbad : c < 0 ∨ 3 < c ∨ t < 0 ∨ 2097152 ≤ t
  · have HT : Hid (writeP formD (f + 1) (.mk c t md bs ks) = .no 21) := by show _ = _; rw [unhide HU, if_pos hbad]
    have Hfin : Hid (OwnB w1 w.heap.size (.slice none 0 0) (bytesOf (writeP formD (f + 1) (.mk c t md bs ks)))) := by show OwnB _ _ _ _; rw [unhide HT]; exact ownb_nil _ _
    obtain ⟨T, hT⟩ : ∃ T, writeP formD (f + 1) (.mk c t md bs ks) = T := ⟨_, rfl⟩
    rw [hT] at HT Hfin ⊢
    clear HU hT
    rcases (by omega : c < 0 ∨ (¬ c < 0 ∧ 3 < c) ∨ (¬ c < 0 ∧ ¬ 3 < c ∧ t < 0) ∨ (¬ c < 0 ∧ ¬ 3 < c ∧ ¬ t < 0 ∧ 2097152 ≤ t)) with h | ⟨h, h2⟩ | ⟨h, h2, h3⟩ | ⟨h, h2, h3, h4⟩
    · have e1 : decide (c < 0) = true := by simp; omega
      clear hbad
      go_enter Tryz.func106, Tryz.ntmps106
      go_wp2
      exact bodyPost_ret (v := .tuple #[.slice none 0 0, .int .i64 21]) (by simp [results, Tryz.results106, go_sem]) rfl ⟨_, by rw [unhide HT]; rfl, by first | exact unhide Hfin | (rw [← unhide HA]; exact unhide Hfin), by first | exact unhide Hb1 | (rw [← unhide HA]; exact unhide Hb1)⟩
    · have e1 : decide (c < 0) = false := by simp; omega
      have e2 : decide (3 < c) = true := by simp; omega
      clear hbad
      go_enter Tryz.func106, Tryz.ntmps106
      go_wp2
      exact bodyPost_ret (v := .tuple #[.slice none 0 0, .int .i64 21]) (by simp [results, Tryz.results106, go_sem]) rfl ⟨_, by rw [unhide HT]; rfl, by first | exact unhide Hfin | (rw [← unhide HA]; exact unhide Hfin), by first | exact unhide Hb1 | (rw [← unhide HA]; exact unhide Hb1)⟩
    · have e1 : decide (c < 0) = false := by simp; omega
      have e2 : decide (3 < c) = false := by simp; omega
      have e3 : decide (t < 0) = true := by simp; omega
      clear hbad
      go_enter Tryz.func106, Tryz.ntmps106
      go_wp2
      exact bodyPost_ret (v := .tuple #[.slice none 0 0, .int .i64 21]) (by simp [results, Tryz.results106, go_sem]) rfl ⟨_, by rw [unhide HT]; rfl, by first | exact unhide Hfin | (rw [← unhide HA]; exact unhide Hfin), by first | exact unhide Hb1 | (rw [← unhide HA]; exact unhide Hb1)⟩
    · have e1 : decide (c < 0) = false := by simp; omega
      have e2 : decide (3 < c) = false := by simp; omega
      have e3 : decide (t < 0) = false := by simp; omega
      have e4 : decide (2097152 ≤ t) = true := by simp; omega
      clear hbad
      go_enter Tryz.func106, Tryz.ntmps106
      go_wp2
      exact bodyPost_ret (v := .tuple #[.slice none 0 0, .int .i64 21]) (by simp [results, Tryz.results106, go_sem]) rfl ⟨_, by rw [unhide HT]; rfl, by first | exact unhide Hfin | (rw [← unhide HA]; exact unhide Hfin), by first | exact unhide Hb1 | (rw [← unhide HA]; exact unhide Hb1)⟩
  have e1 : decide (c < 0) = false := by simp; omega
  have e2 : decide (3 < c) = false := by simp; omega
  have e3 : decide (t < 0) = false := by simp; omega
  have e4 : decide (2097152 ≤ t) = false := by simp; omega
  obtain ⟨cN, rfl⟩ : ∃ cN : Nat, c = (cN : Int) := ⟨c.toNat, by omega⟩
  obtain ⟨tN, rfl⟩ : ∃ tN : Nat, t = (tN : Int) := ⟨t.toNat, by omega⟩
  have hU := unhide HU
  rw [if_neg hbad] at hU
  simp only [Int.toNat_natCast] at hU
  have HcN : Hid (cN ≤ 3 ∧ tN < 2097152) := ⟨by omega, by omega⟩
  have hform := form_any rights w1 cN tN md spa cpa sa K na bs (by rw [unhide HL]; exact unhide HXA) (by rw [unhide HL]; omega)
  rw [unhide HL] at hform
  have Hform := hide hform
  obtain ⟨F, hF⟩ : ∃ F, formD cN tN md bs = F := ⟨_, rfl⟩
  rw [hF] at Hform hU
  have HU2 := hide hU
  clear HU hU hform hF hbad
  have Hl0 : Hid (([] : Bs).length + bs.length ≤ 1073741824) := by show _ ≤ _; rw [unhide HL]; simp; omega
  have Hkn : Hid (∀ (i : Nat) (wr : World), i < K → Below w.heap.size w wr → ∃ (k : DV) (ba oa : Nat) (ds : List Value), sa = some ⟨ba, oa, none⟩ ∧ ks[i]? = some k ∧ weight k ≤ 100000 ∧ CellsAt wr ba (oa + i * 5) ds ∧ VAt n S wr ds k) := fun i wr hi hb => by
    have hne : ks ≠ [] := fun e => by have := unhide HK; rw [e] at this; simp at this; omega
    have hi2 : i < ks.length := by have := unhide HK; omega
    have hik : ks[i]? = some ks[i] := List.getElem?_eq_getElem hi2
    obtain ⟨ba, oa, e1, _, f1⟩ := unhide HKA hne
    obtain ⟨ds, g1, v1⟩ := f1 i _ hik
    exact ⟨_, ba, oa, ds, e1, hik, unhide Hkw i _ hik, g1.below hb, v1.below hb⟩
  by_cases hF21 : F = 21
  · subst hF21
    have HT : Hid (writeP formD (f + 1) (.mk (cN : Int) (tN : Int) md bs ks) = .no 21) := by show _ = _; rw [unhide HU2, if_pos rfl]
    have Hfin : Hid (∀ w', OwnB w' w.heap.size (.slice none 0 0) (bytesOf (writeP formD (f + 1) (.mk (cN : Int) (tN : Int) md bs ks)))) := fun w' => by rw [unhide HT]; exact ownb_nil _ _
    obtain ⟨T, hT⟩ : ∃ T, writeP formD (f + 1) (.mk (cN : Int) (tN : Int) md bs ks) = T := ⟨_, rfl⟩
    rw [hT] at HT Hfin ⊢
    clear hT HU2
    go_enter Tryz.func106, Tryz.ntmps106
    go_wp2_with (first
      | (refine wpList_load_row rfl 33 _ rfl A rfl 33 _ (0, 0) _ (unhide HRA) Tryz.underlying33 rfl hsz5 ?_)
      | (go_at_call 131; refine (unhide Hform).mono ?_; rintro e w2 ⟨rfl, hb2⟩
         have Hb02 := hide ((unhide Hb1).trans (hb2.mono (unhide Hb1).size))
         obtain ⟨a0, a1, a2, a3, a4⟩ := unhide HC w2 hb2
         clear hb2))
    exact bodyPost_ret (v := .tuple #[.slice none 0 0, .int .i64 21]) (by simp [results, Tryz.results106, go_sem]) rfl ⟨_, by rw [unhide HT]; rfl, unhide Hfin _, unhide Hb02⟩
  have f21 : ((F : Int) == 21) = false := by simp; omega
  by_cases hF24 : F ≠ 0 ∨ (md = true ∧ 0 < L) ∨ (md = false ∧ 0 < K)
  · have HT : Hid (writeP formD (f + 1) (.mk (cN : Int) (tN : Int) md bs ks) = .no 24) := by show _ = _; rw [unhide HU2, if_neg hF21, if_pos hF24]
    have Hfin : Hid (∀ w', OwnB w' w.heap.size (.slice none 0 0) (bytesOf (writeP formD (f + 1) (.mk (cN : Int) (tN : Int) md bs ks)))) := fun w' => by rw [unhide HT]; exact ownb_nil _ _
    obtain ⟨T, hT⟩ : ∃ T, writeP formD (f + 1) (.mk (cN : Int) (tN : Int) md bs ks) = T := ⟨_, rfl⟩
    rw [hT] at HT Hfin ⊢
    clear hT HU2
    rcases (by by_cases h : F = 0 <;> simp [h] at hF24 ⊢ <;> exact hF24 : F ≠ 0 ∨ (F = 0 ∧ ((md = true ∧ 0 < L) ∨ (md = false ∧ 0 < K)))) with h | ⟨rfl, ⟨rfl, h⟩ | ⟨rfl, h⟩⟩
    · have f0 : ((F : Int) == 0) = false := by simp; omega
      have f0' : ((F : Int) != 0) = true := by simp; omega
      clear hF24
      go_enter Tryz.func106, Tryz.ntmps106
      go_upto_region 8 with (first
        | (refine wpList_load_row rfl 33 _ rfl A rfl 33 _ (0, 0) _ (unhide HRA) Tryz.underlying33 rfl hsz5 ?_)
        | (go_at_call 131; refine (unhide Hform).mono ?_; rintro e w2 ⟨rfl, hb2⟩
           have Hb02 := hide ((unhide Hb1).trans (hb2.mono (unhide Hb1).size))
           obtain ⟨a0, a1, a2, a3, a4⟩ := unhide HC w2 hb2
           clear hb2))
      go_wp2
      exact bodyPost_ret (v := .tuple #[.slice none 0 0, .int .i64 24]) (by simp [results, Tryz.results106, go_sem]) rfl ⟨_, by rw [unhide HT]; rfl, unhide Hfin _, unhide Hb02⟩
    · have l0 : decide ((0 : Int) < (L : Int)) = true := by simp; omega
      have l0n : decide (0 < L) = true := by simp; omega
      clear hF24
      go_enter Tryz.func106, Tryz.ntmps106
      go_upto_region 8 with (first
        | (refine wpList_load_row rfl 33 _ rfl A rfl 33 _ (0, 0) _ (unhide HRA) Tryz.underlying33 rfl hsz5 ?_)
        | (go_at_call 131; refine (unhide Hform).mono ?_; rintro e w2 ⟨rfl, hb2⟩
           have Hb02 := hide ((unhide Hb1).trans (hb2.mono (unhide Hb1).size))
           obtain ⟨a0, a1, a2, a3, a4⟩ := unhide HC w2 hb2
           clear hb2))
      go_wp2
      exact bodyPost_ret (v := .tuple #[.slice none 0 0, .int .i64 24]) (by simp [results, Tryz.results106, go_sem]) rfl ⟨_, by rw [unhide HT]; rfl, unhide Hfin _, unhide Hb02⟩
    · have l0 : decide ((0 : Int) < (K : Int)) = true := by simp; omega
      have l0n : decide (0 < K) = true := by simp; omega
      clear hF24
      go_enter Tryz.func106, Tryz.ntmps106
      go_upto_region 8 with (first
        | (refine wpList_load_row rfl 33 _ rfl A rfl 33 _ (0, 0) _ (unhide HRA) Tryz.underlying33 rfl hsz5 ?_)
        | (go_at_call 131; refine (unhide Hform).mono ?_; rintro e w2 ⟨rfl, hb2⟩
           have Hb02 := hide ((unhide Hb1).trans (hb2.mono (unhide Hb1).size))
           obtain ⟨a0, a1, a2, a3, a4⟩ := unhide HC w2 hb2
           clear hb2))
      go_wp2
      exact bodyPost_ret (v := .tuple #[.slice none 0 0, .int .i64 24]) (by simp [results, Tryz.results106, go_sem]) rfl ⟨_, by rw [unhide HT]; rfl, unhide Hfin _, unhide Hb02⟩
  obtain rfl : F = 0 := by simp only [not_or, Decidable.not_not] at hF24; exact hF24.1
  have HU3 : Hid (writeP formD (f + 1) (.mk (cN : Int) (tN : Int) md bs ks) = match allP (writeP formD f) ks with
    | .no e => .no e
    | .yes dn => if (fallsP dn && decide ((cN : Int) = 0) && decide ((tN : Int) = 17)) = true then .no 25 else .yes (tagB cN tN md ++ lenB (bs ++ dn.flatten).length ++ (bs ++ dn.flatten))) := by show _ = _; rw [unhide HU2, if_neg hF21, if_neg hF24]; rfl
  have hmd : (md = true ∧ L = 0) ∨ (md = false ∧ K = 0) := by
    simp only [not_or, not_and, Nat.not_lt, Nat.le_zero] at hF24
    cases md with
    | true => exact Or.inl ⟨rfl, hF24.2.1 rfl⟩
    | false => exact Or.inr ⟨rfl, hF24.2.2 rfl⟩
  have Hmd := hide hmd
  clear HU2 hF21 hF24 f21
  go_enter Tryz.func106, Tryz.ntmps106
  rcases hmd with ⟨rfl, rfl⟩ | ⟨rfl, rfl⟩
  · go_wp2_with (first
      | (refine wpList_load_row rfl 33 _ rfl A rfl 33 _ (0, 0) _ (unhide HRA) Tryz.underlying33 rfl hsz5 ?_)
      | (go_at_call 131; refine (unhide Hform).mono ?_; rintro e w2 ⟨rfl, hb2⟩
         have HB2 := hide hb2
         have Hb02 := hide ((unhide Hb1).trans (hb2.mono (unhide Hb1).size))
         obtain ⟨a0, a1, a2, a3, a4⟩ := unhide HC w2 hb2
         have HR2 : Hid (Row w2 (w2.alloc (.cells #[] 5)) (.slice (some ⟨w2.heap.size, 0, none⟩) 0 0) []) := ⟨ownb_empty _, (Below.refl _ _).alloc (Nat.le_refl _) _⟩
         have HY2 : Hid (BytesAt (w2.alloc (.cells #[] 5)) (.slice spa 0 cpa) bs) := ((unhide HXA).below hb2).below ((Below.refl _ _).alloc (Nat.le_refl _) _)
         have o3 := (unhide HC (w2.alloc (.cells #[] 5)) (hb2.alloc hb2.size _)).2.2.2.1
         clear hb2)
      | (at_builtin; refine wpList_append_row rfl _ _ rfl (.slice (some ⟨w2.heap.size, 0, none⟩) 0 0) (.slice spa 0 cpa) [] bs rfl (unhide HR2) rfl (unhide HY2) (unhide Hl0) ?_
         intro v3 w3 hR3
         rw [List.nil_append] at hR3
         obtain ⟨s3, c3, rfl⟩ := hR3.own.form
         rw [unhide HL] at hR3
         have eL := unhide HL
         rw [eL]
         have HR3 := hide hR3
         clear hR3 eL))
    have HW3 : Hid (WAt f ks bs w2 w3 s3 0 c3 (.slice none 0 0) [] false [] 0) := ⟨by rw [List.flatten_nil, List.append_nil]; exact unhide HR3, by rw [List.flatten_nil, List.append_nil]; exact unhide HL, ownb_nil _ _, fun k _ h => (by cases h), Or.inl ⟨rfl, rfl⟩, rfl, rfl, (prepA_nil _).symm, by rw [List.take_zero, all_end]⟩
    clear HR2 HY2 HR3 o3 a0 a1 a2 a3 a4 hw1
    go_loopw [7, 8, 9, 10] (fun bb ll ff ii wr => ∃ (i nB : Nat) (sB : Option Addr) (cB : Nat) (lx : Bs) (fl : Bool) (dn : List Bs) (lv : Value), i ≤ K ∧ bb = .slice sB nB cB ∧ ll = lv ∧ ff = .bool fl ∧ ii = .int .i64 (i : Int) ∧ Hid (WAt f ks bs w2 wr sB nB cB lv lx fl dn i)) (fun _ _ _ ii _ => K - (intOf ii).toNat)
    case atStart => exact ⟨0, 0, s3, c3, [], false, [], _, Nat.zero_le _, rfl, rfl, rfl, rfl, HW3⟩
    case round =>
      obtain ⟨i, nB, sB, cB, lx, fl, dn, lv, hi, rfl, hll, rfl, rfl, HW⟩ := hrel
      obtain rfl := hll.symm
      clear HW3
      have hBr : Below w1.heap.size w1 wr := (unhide HB2).trans ((unhide HW).row.b.mono (unhide HB2).size)
      obtain ⟨a0, a1, a2, a3, a4⟩ := unhide HC wr hBr
      have HBr := hide hBr
      have HB0 := hide ((unhide Hb1).trans (hBr.mono (unhide Hb1).size))
      have hnB : nB ≤ 9200000 := by
        have h1 := (unhide HW).nb
        have h2 := some_le f ks i dn (by have := unhide Hkws; omega) (unhide HW).took
        have h3 := unhide HL
        rw [List.length_append] at h1
        omega
      have nBb : (nB : Int) ≤ 9200000 := by omega
      clear hBr
      by_cases hlt : i < K
      · obtain ⟨k, ba, oa, ds, rfl, hik, hkw, g1, v1⟩ := unhide Hkn i wr hlt ((unhide Hb1).trans ((unhide HBr).mono (unhide Hb1).size))
        obtain ⟨p1, q1, p2, q2, rfl⟩ := v1.form
        obtain ⟨x0, x1, x2, x3, x4⟩ := g1.five
        obtain ⟨d2, hd2⟩ : ∃ d2, d + 1 = d2 := ⟨_, rfl⟩
        have ed2 : (d : Int) + 1 = (d2 : Int) := by omega
        have Hc := hide (unhide Hih n S k wr _ d2 (by have := unhide Hd; omega) v1 hkw)
        have Hik := hide hik
        have i0 : (0 : Int) ≤ (i : Int) := by omega
        have i1 : (i : Int) < (K : Int) := by omega
        have ib : (i : Int) ≤ 100000 := by omega
        have g3 : decide ((i : Int) < (K : Int)) = true := by simp; omega
        have g3n : decide (i < K) = true := by simp; omega
        unfold dcells at Hc
        clear g1 v1 hkw hik hd2
        obtain ⟨kc, hkc⟩ : ∃ kc, k.cls = kc := ⟨_, rfl⟩
        obtain ⟨kt, hkt⟩ : ∃ kt, k.tag = kt := ⟨_, rfl⟩
        obtain ⟨km, hkm⟩ : ∃ km, k.made = km := ⟨_, rfl⟩
        obtain ⟨kl, hkl3⟩ : ∃ kl, k.bytes.length = kl := ⟨_, rfl⟩
        obtain ⟨kk, hkk⟩ : ∃ kk, k.kids.length = kk := ⟨_, rfl⟩
        simp only [hkc, hkt, hkm, hkl3, hkk] at x0 x1 x2 x3 x4 Hc
        clear hkc hkt hkm hkl3 hkk
        go_wp2_with fail
        refine (unhide Hc).mono ?_
        rintro e w5 ⟨x5, rfl, hown5, hb5⟩
        have HB5 := hide ((unhide HB0).trans (hb5.mono (unhide HB0).size))
        cases hk5 : writeP formD f k with
        | no x =>
          rw [hk5] at hown5
          simp only [errOf]
          have hx0 := write_pos formD f k x hk5
          have HT : Hid (writeP formD (f + 1) (.mk (cN : Int) (tN : Int) true bs ks) = .no x) := by show _ = _; rw [unhide HU3, (unhide HW).told, all_no dn (unhide Hik) hk5]
          have g4 : ((x : Int) == 0) = false := by simp; omega
          have g4' : ((x : Int) != 0) = true := by simp; omega
          obtain ⟨s5, c5, rfl⟩ := OwnB.form hown5
          clear hk5 hown5 hb5 Hc x0 x1 x2 x3 x4
          go_wp2
          refine bodyPost_ret (v := .tuple #[.slice none 0 0, .int .i64 (x : Int)]) (by simp [results, Tryz.results106, go_sem]) rfl ?_
          rw [unhide HT]
          exact ⟨_, rfl, ownb_nil _ _, unhide HB5⟩
        | yes y =>
          rw [hk5] at hown5
          simp only [errOf]
          simp only [bytesOf] at hown5
          obtain ⟨s5, c5, rfl⟩ := OwnB.form hown5
          obtain ⟨Y, hY⟩ : ∃ Y, y.length = Y := ⟨_, rfl⟩
          rw [hY] at hown5 ⊢
          have HY := hide hY
          have hYb : Y ≤ 900000 := by
            have h1 := out_le f k y (by have := unhide Hkw i k (unhide Hik); omega) hk5
            have h2 := unhide Hkw i k (unhide Hik)
            omega
          have Ho5 := hide hown5
          have Hyes := hide hk5
          have HR5 := hide ((unhide HW).row.call hb5)
          have Hla5 := hide ((unhide HW).last.below hb5)
          have Hapl := hide (unhide HW).ap
          have Hap5 : Hid (Apart (.slice sB nB cB) (.slice s5 Y c5)) := fun g hg hg5 => by
            have h1 := (World.ownsRow.lt (unhide HW).row.own g hg).2
            have h2 := OwnV.fresh hown5 g hg5
            omega
          have HBy5 : Hid (Below wr.heap.size wr w5) := hb5
          clear hk5 hown5 hb5 hY Hc x0 x1 x2 x3 x4
          have Hlen5 : Hid ((bs ++ dn.flatten).length + y.length ≤ 1073741824) := by show _ ≤ _; rw [(unhide HW).nb, unhide HY]; omega
          cases fl with
          | true =>
            have hfl : fallsP (dn ++ [y]) = true := by rw [falls_snoc, ← (unhide HW).fl]; rfl
            have Hfl := hide hfl
            clear hfl
            
            go_wp2_with (first
              | (at_builtin; refine wpList_append_grew rfl _ _ rfl (.slice sB nB cB) (.slice s5 Y c5) (bs ++ dn.flatten) y rfl (unhide HR5) rfl (OwnB.bytes (unhide Ho5)) (unhide Hlen5) ?_
                 intro v7 w7 hR7 hG7
                 obtain ⟨hol, hap⟩ := hG7.kept (unhide Hap5) (unhide Ho5)
                 obtain ⟨s7, c7, rfl⟩ := hR7.own.form
                 have e7 : (bs ++ dn.flatten ++ y).length = nB + Y := by { rw [List.length_append, (unhide HW).nb, unhide HY] }
                 rw [e7] at hR7 hap
                 rw [e7]
                 have HR7 := hide hR7
                 have Hol7 := hide hol
                 have Hap7 := hide hap
                 clear hR7 hG7 hol hap e7))
            have HW7 : Hid (WAt f ks bs w2 w7 s7 (nB + Y) c7 (.slice s5 Y c5) y true (dn ++ [y]) (i + 1)) := (unhide HW).add (unhide Hik) (unhide Hyes) (unhide HR7) (unhide HY) ((unhide Hol7).mono (Nat.le_trans (unhide HW).row.b.size (Nat.le_refl _))) (unhide Hap7) (unhide Hfl).symm
            go_roundw
            case rel =>
              first
                | exact ⟨i + 1, nB + Y, s7, c7, y, true, dn ++ [y], .slice s5 Y c5, by omega, rfl, rfl, rfl, by go_num, HW7⟩
                | ((repeat apply Exists.intro); exact ⟨⟨i + 1, nB + Y, s7, c7, y, true, dn ++ [y], .slice s5 Y c5, by omega, rfl, rfl, rfl, by go_num, HW7⟩, rfl⟩)
            case measure => simp [intOf]; omega
          | false =>
            by_cases hi0 : i = 0
            · subst hi0
              have hdn : dn = [] := List.eq_nil_of_length_eq_zero (unhide HW).len
              have hfl : fallsP (dn ++ [y]) = false := by rw [hdn]; rfl
              have Hfl := hide hfl
              clear hfl hdn
              
              go_wp2_with (first
                | (at_builtin; refine wpList_append_grew rfl _ _ rfl (.slice sB nB cB) (.slice s5 Y c5) (bs ++ dn.flatten) y rfl (unhide HR5) rfl (OwnB.bytes (unhide Ho5)) (unhide Hlen5) ?_
                   intro v7 w7 hR7 hG7
                   obtain ⟨hol, hap⟩ := hG7.kept (unhide Hap5) (unhide Ho5)
                   obtain ⟨s7, c7, rfl⟩ := hR7.own.form
                   have e7 : (bs ++ dn.flatten ++ y).length = nB + Y := by { rw [List.length_append, (unhide HW).nb, unhide HY] }
                   rw [e7] at hR7 hap
                   rw [e7]
                   have HR7 := hide hR7
                   have Hol7 := hide hol
                   have Hap7 := hide hap
                   clear hR7 hG7 hol hap e7))
              have HW7 : Hid (WAt f ks bs w2 w7 s7 (nB + Y) c7 (.slice s5 Y c5) y false (dn ++ [y]) (0 + 1)) := (unhide HW).add (unhide Hik) (unhide Hyes) (unhide HR7) (unhide HY) ((unhide Hol7).mono (Nat.le_trans (unhide HW).row.b.size (Nat.le_refl _))) (unhide Hap7) (unhide Hfl).symm
              go_roundw
              case rel =>
                first
                  | exact ⟨0 + 1, nB + Y, s7, c7, y, false, dn ++ [y], .slice s5 Y c5, by omega, rfl, rfl, rfl, by go_num, HW7⟩
                  | ((repeat apply Exists.intro); exact ⟨⟨0 + 1, nB + Y, s7, c7, y, false, dn ++ [y], .slice s5 Y c5, by omega, rfl, rfl, rfl, by go_num, HW7⟩, rfl⟩)
              case measure => simp [intOf]; omega
            · have gi : decide ((0 : Int) < (i : Int)) = true := by simp; omega
              have gin : decide (0 < i) = true := by simp; omega
              have hfl : fallsP (dn ++ [y]) = lessP y lx := by
                rcases (unhide HW).lst with ⟨h1, _⟩ | ⟨d0, h1⟩
                · have := (unhide HW).len; rw [h1] at this; simp at this; omega
                · have h2 := (unhide HW).fl
                  rw [h1] at h2 ⊢
                  rw [falls_next, ← h2]
                  rfl
              have hlx : lx.length ≤ 9000000 := by
                rcases (unhide HW).lst with ⟨_, h1⟩ | ⟨d0, h1⟩
                · rw [h1]; simp
                · have h2 := some_le f ks i dn (by have := unhide Hkws; omega) (unhide HW).took
                  rw [h1] at h2
                  simp only [List.flatten_append, List.length_append, List.flatten_cons, List.flatten_nil, List.append_nil] at h2
                  omega
              have Hless := hide (less_any w5 (.slice s5 Y c5) lv y lx (OwnB.bytes (unhide Ho5)) (OwnB.bytes (unhide Hla5)) (by rw [unhide HY]; omega) (by omega))
              obtain ⟨le, hle⟩ : ∃ le, lessP y lx = le := ⟨_, rfl⟩
              rw [hle] at hfl Hless
              have Hfl := hide hfl
              clear hfl hle hlx
              go_upto_region 20 with (first
                | (go_at_call 132; refine (unhide Hless).mono ?_; rintro e w6 ⟨rfl, hb6⟩
                   have HR6 := hide ((unhide HR5).call hb6)
                   have Ho6 := hide ((unhide Ho5).below hb6)
                   clear hb6))
              go_wp2_with (first
                | (at_builtin; refine wpList_append_grew rfl _ _ rfl (.slice sB nB cB) (.slice s5 Y c5) (bs ++ dn.flatten) y rfl (unhide HR6) rfl (OwnB.bytes (unhide Ho6)) (unhide Hlen5) ?_
                   intro v7 w7 hR7 hG7
                   obtain ⟨hol, hap⟩ := hG7.kept (unhide Hap5) (unhide Ho6)
                   obtain ⟨s7, c7, rfl⟩ := hR7.own.form
                   have e7 : (bs ++ dn.flatten ++ y).length = nB + Y := by { rw [List.length_append, (unhide HW).nb, unhide HY] }
                   rw [e7] at hR7 hap
                   rw [e7]
                   have HR7 := hide hR7
                   have Hol7 := hide hol
                   have Hap7 := hide hap
                   clear hR7 hG7 hol hap e7))
              have HW7 : Hid (WAt f ks bs w2 w7 s7 (nB + Y) c7 (.slice s5 Y c5) y le (dn ++ [y]) (i + 1)) := (unhide HW).add (unhide Hik) (unhide Hyes) (unhide HR7) (unhide HY) ((unhide Hol7).mono (Nat.le_trans (unhide HW).row.b.size (Nat.le_refl _))) (unhide Hap7) (unhide Hfl).symm
              go_roundw
              case rel =>
                first
                  | exact ⟨i + 1, nB + Y, s7, c7, y, le, dn ++ [y], .slice s5 Y c5, by omega, rfl, rfl, rfl, by go_num, HW7⟩
                  | ((repeat apply Exists.intro); exact ⟨⟨i + 1, nB + Y, s7, c7, y, le, dn ++ [y], .slice s5 Y c5, by omega, rfl, rfl, rfl, by go_num, HW7⟩, rfl⟩)
              case measure => simp [intOf]; omega
      · obtain rfl : i = K := by omega
        have hal : allP (writeP formD f) ks = .yes dn := by rw [(unhide HW).told]; have h1 := all_done (g := writeP formD f) (ks := ks) dn; rw [unhide HK] at h1; exact h1
        have hU4 := unhide HU3
        rw [hal] at hU4
        simp only [] at hU4
        rw [(unhide HW).nb, ← (unhide HW).fl] at hU4
        have HU4 := hide hU4
        have g3 : decide ((i : Int) < (i : Int)) = false := by simp
        have HRAr : Hid (wr.heap[A]? = some (.cells #[.int .i64 (cN : Int), .int .i64 (tN : Int), .bool true, .slice spa 0 cpa, .slice sa i na] 33 (0, 0))) := by show _ = _; rw [(unhide HBr).block A (Array.getElem?_eq_some_iff.1 (unhide HRA)).1]; exact unhide HRA
        clear hal hU4 HU3
        by_cases hff : (fl && decide ((cN : Int) = 0) && decide ((tN : Int) = 17)) = true
        case pos =>
          have HT : Hid (writeP formD (f + 1) (.mk (cN : Int) (tN : Int) true bs ks) = .no 25) := by show _ = _; rw [unhide HU4, if_pos hff]
          simp only [Bool.and_eq_true, decide_eq_true_eq] at hff
          obtain ⟨⟨rfl, hc0⟩, ht17⟩ := hff
          have m0 : ((cN : Int) == 0) = true := by simp; omega
          have m1 : ((tN : Int) == 17) = true := by simp; omega
          clear hc0 ht17
          go_wp2
          refine bodyPost_ret (v := .tuple #[.slice none 0 0, .int .i64 25]) (by simp [results, Tryz.results106, go_sem]) rfl ?_
          rw [unhide HT]
          exact ⟨_, rfl, ownb_nil _ _, by first | exact unhide HB0 | (rw [← unhide HA]; exact unhide HB0)⟩
        have HT : Hid (writeP formD (f + 1) (.mk (cN : Int) (tN : Int) true bs ks) = .yes (tagB cN tN true ++ lenB nB ++ (bs ++ dn.flatten))) := by show _ = _; rw [unhide HU4, if_neg hff]
        have Hhead := hide (head_any wr cN tN nB true (unhide HcN).1 (unhide HcN).2 (by omega) spa 0 cpa sa i na)
        have Hlt : Hid ((tagB cN tN true ++ lenB nB).length + (bs ++ dn.flatten).length ≤ 1073741824) := by
          show _ ≤ _
          rw [List.length_append, (unhide HW).nb]
          have h1 := len_tagB_le cN tN true
          have h2 := lenB_le (n := nB) (by omega)
          omega
        obtain ⟨TH, hTH⟩ : ∃ TH : Bs, tagB cN tN true ++ lenB nB = TH := ⟨_, rfl⟩
        rw [hTH] at HT Hlt Hhead
        obtain ⟨TN, hTN⟩ : ∃ TN, TH.length = TN := ⟨_, rfl⟩
        have HTN := hide hTN
        clear HU4 hTH hTN
        rcases (by cases fl <;> simp at hff ⊢ <;> omega : fl = false ∨ (fl = true ∧ cN ≠ 0) ∨ (fl = true ∧ cN = 0 ∧ tN ≠ 17)) with rfl | ⟨rfl, hc0⟩ | ⟨rfl, hc0, ht17⟩
        · clear hff
          go_upto_region 24 with fail
          go_wp2_with (first | (refine wpList_load_row rfl 33 _ rfl A rfl 33 _ (0, 0) _ (unhide HRAr) Tryz.underlying33 rfl hsz5 ?_) | fail)
          refine (unhide Hhead).mono ?_
          rintro e w7 ⟨v7, rfl, hR7⟩
          obtain ⟨s7, c7, rfl⟩ := hR7.own.form
          rw [unhide HTN] at hR7
          have eTN := unhide HTN
          rw [eTN]
          have HR7 := hide hR7
          have HBy := hide ((unhide HW).row.bytes.below hR7.b)
          clear hR7 eTN Hhead
          go_wp2_with (first
            | (at_builtin; refine wpList_append_row rfl _ _ rfl (.slice s7 TN c7) (.slice sB nB cB) TH (bs ++ dn.flatten) rfl (unhide HR7) rfl (unhide HBy) (unhide Hlt) ?_
               intro v8 w8 hR8
               have HR8 := hide hR8
               clear hR8))
          have hR9 := (unhide HR8).up (unhide HB0)
          refine bodyPost_ret (v := .tuple #[v8, .int .i64 0]) (by simp [results, Tryz.results106, go_sem]) rfl ?_
          rw [unhide HT]
          exact ⟨v8, rfl, hR9.own, hR9.b⟩
        · have m0 : ((cN : Int) == 0) = false := by simp; omega
          clear hff hc0
          go_upto_region 24 with fail
          go_wp2_with (first | (refine wpList_load_row rfl 33 _ rfl A rfl 33 _ (0, 0) _ (unhide HRAr) Tryz.underlying33 rfl hsz5 ?_) | fail)
          refine (unhide Hhead).mono ?_
          rintro e w7 ⟨v7, rfl, hR7⟩
          obtain ⟨s7, c7, rfl⟩ := hR7.own.form
          rw [unhide HTN] at hR7
          have eTN := unhide HTN
          rw [eTN]
          have HR7 := hide hR7
          have HBy := hide ((unhide HW).row.bytes.below hR7.b)
          clear hR7 eTN Hhead
          go_wp2_with (first
            | (at_builtin; refine wpList_append_row rfl _ _ rfl (.slice s7 TN c7) (.slice sB nB cB) TH (bs ++ dn.flatten) rfl (unhide HR7) rfl (unhide HBy) (unhide Hlt) ?_
               intro v8 w8 hR8
               have HR8 := hide hR8
               clear hR8))
          have hR9 := (unhide HR8).up (unhide HB0)
          refine bodyPost_ret (v := .tuple #[v8, .int .i64 0]) (by simp [results, Tryz.results106, go_sem]) rfl ?_
          rw [unhide HT]
          exact ⟨v8, rfl, hR9.own, hR9.b⟩
        · have m0 : ((cN : Int) == 0) = true := by simp; omega
          have m1 : ((tN : Int) == 17) = false := by simp; omega
          clear hff hc0 ht17
          go_upto_region 24 with fail
          go_wp2_with (first | (refine wpList_load_row rfl 33 _ rfl A rfl 33 _ (0, 0) _ (unhide HRAr) Tryz.underlying33 rfl hsz5 ?_) | fail)
          refine (unhide Hhead).mono ?_
          rintro e w7 ⟨v7, rfl, hR7⟩
          obtain ⟨s7, c7, rfl⟩ := hR7.own.form
          rw [unhide HTN] at hR7
          have eTN := unhide HTN
          rw [eTN]
          have HR7 := hide hR7
          have HBy := hide ((unhide HW).row.bytes.below hR7.b)
          clear hR7 eTN Hhead
          go_wp2_with (first
            | (at_builtin; refine wpList_append_row rfl _ _ rfl (.slice s7 TN c7) (.slice sB nB cB) TH (bs ++ dn.flatten) rfl (unhide HR7) rfl (unhide HBy) (unhide Hlt) ?_
               intro v8 w8 hR8
               have HR8 := hide hR8
               clear hR8))
          have hR9 := (unhide HR8).up (unhide HB0)
          refine bodyPost_ret (v := .tuple #[v8, .int .i64 0]) (by simp [results, Tryz.results106, go_sem]) rfl ?_
          rw [unhide HT]
          exact ⟨v8, rfl, hR9.own, hR9.b⟩
  · go_wp2_with (first
      | (refine wpList_load_row rfl 33 _ rfl A rfl 33 _ (0, 0) _ (unhide HRA) Tryz.underlying33 rfl hsz5 ?_)
      | (go_at_call 131; refine (unhide Hform).mono ?_; rintro e w2 ⟨rfl, hb2⟩
         have HB2 := hide hb2
         have Hb02 := hide ((unhide Hb1).trans (hb2.mono (unhide Hb1).size))
         obtain ⟨a0, a1, a2, a3, a4⟩ := unhide HC w2 hb2
         have HR2 : Hid (Row w2 (w2.alloc (.cells #[] 5)) (.slice (some ⟨w2.heap.size, 0, none⟩) 0 0) []) := ⟨ownb_empty _, (Below.refl _ _).alloc (Nat.le_refl _) _⟩
         have HY2 : Hid (BytesAt (w2.alloc (.cells #[] 5)) (.slice spa L cpa) bs) := ((unhide HXA).below hb2).below ((Below.refl _ _).alloc (Nat.le_refl _) _)
         have o3 := (unhide HC (w2.alloc (.cells #[] 5)) (hb2.alloc hb2.size _)).2.2.2.1
         clear hb2)
      | (at_builtin; refine wpList_append_row rfl _ _ rfl (.slice (some ⟨w2.heap.size, 0, none⟩) 0 0) (.slice spa L cpa) [] bs rfl (unhide HR2) rfl (unhide HY2) (unhide Hl0) ?_
         intro v3 w3 hR3
         rw [List.nil_append] at hR3
         obtain ⟨s3, c3, rfl⟩ := hR3.own.form
         rw [unhide HL] at hR3
         have eL := unhide HL
         rw [eL]
         have HR3 := hide hR3
         clear hR3 eL))
    have HW3 : Hid (WAt f ks bs w2 w3 s3 L c3 (.slice none 0 0) [] false [] 0) := ⟨by rw [List.flatten_nil, List.append_nil]; exact unhide HR3, by rw [List.flatten_nil, List.append_nil]; exact unhide HL, ownb_nil _ _, fun k _ h => (by cases h), Or.inl ⟨rfl, rfl⟩, rfl, rfl, (prepA_nil _).symm, by rw [List.take_zero, all_end]⟩
    clear HR2 HY2 HR3 o3 a0 a1 a2 a3 a4 hw1
    go_loopw [7, 8, 9, 10] (fun bb ll ff ii wr => ∃ (i nB : Nat) (sB : Option Addr) (cB : Nat) (lx : Bs) (fl : Bool) (dn : List Bs) (lv : Value), i ≤ 0 ∧ bb = .slice sB nB cB ∧ ll = lv ∧ ff = .bool fl ∧ ii = .int .i64 (i : Int) ∧ Hid (WAt f ks bs w2 wr sB nB cB lv lx fl dn i)) (fun _ _ _ ii _ => 0 - (intOf ii).toNat)
    case atStart => exact ⟨0, L, s3, c3, [], false, [], _, Nat.zero_le _, rfl, rfl, rfl, rfl, HW3⟩
    case round =>
      obtain ⟨i, nB, sB, cB, lx, fl, dn, lv, hi, rfl, hll, rfl, rfl, HW⟩ := hrel
      obtain rfl := hll.symm
      clear HW3
      have hBr : Below w1.heap.size w1 wr := (unhide HB2).trans ((unhide HW).row.b.mono (unhide HB2).size)
      obtain ⟨a0, a1, a2, a3, a4⟩ := unhide HC wr hBr
      have HBr := hide hBr
      have HB0 := hide ((unhide Hb1).trans (hBr.mono (unhide Hb1).size))
      have hnB : nB ≤ 9200000 := by
        have h1 := (unhide HW).nb
        have h2 := some_le f ks i dn (by have := unhide Hkws; omega) (unhide HW).took
        have h3 := unhide HL
        rw [List.length_append] at h1
        omega
      have nBb : (nB : Int) ≤ 9200000 := by omega
      clear hBr
      by_cases hlt : i < 0
      · omega
      · obtain rfl : i = 0 := by omega
        have hal : allP (writeP formD f) ks = .yes dn := by rw [(unhide HW).told]; have h1 := all_done (g := writeP formD f) (ks := ks) dn; rw [unhide HK] at h1; exact h1
        have hU4 := unhide HU3
        rw [hal] at hU4
        simp only [] at hU4
        rw [(unhide HW).nb, ← (unhide HW).fl] at hU4
        have HU4 := hide hU4
        have g3 : decide ((0 : Int) < (0 : Int)) = false := by simp
        have HRAr : Hid (wr.heap[A]? = some (.cells #[.int .i64 (cN : Int), .int .i64 (tN : Int), .bool false, .slice spa L cpa, .slice sa 0 na] 33 (0, 0))) := by show _ = _; rw [(unhide HBr).block A (Array.getElem?_eq_some_iff.1 (unhide HRA)).1]; exact unhide HRA
        clear hal hU4 HU3
        by_cases hff : (fl && decide ((cN : Int) = 0) && decide ((tN : Int) = 17)) = true
        case pos =>
          have HT : Hid (writeP formD (f + 1) (.mk (cN : Int) (tN : Int) false bs ks) = .no 25) := by show _ = _; rw [unhide HU4, if_pos hff]
          simp only [Bool.and_eq_true, decide_eq_true_eq] at hff
          obtain ⟨⟨rfl, hc0⟩, ht17⟩ := hff
          have m0 : ((cN : Int) == 0) = true := by simp; omega
          have m1 : ((tN : Int) == 17) = true := by simp; omega
          clear hc0 ht17
          go_wp2
          refine bodyPost_ret (v := .tuple #[.slice none 0 0, .int .i64 25]) (by simp [results, Tryz.results106, go_sem]) rfl ?_
          rw [unhide HT]
          exact ⟨_, rfl, ownb_nil _ _, by first | exact unhide HB0 | (rw [← unhide HA]; exact unhide HB0)⟩
        have HT : Hid (writeP formD (f + 1) (.mk (cN : Int) (tN : Int) false bs ks) = .yes (tagB cN tN false ++ lenB nB ++ (bs ++ dn.flatten))) := by show _ = _; rw [unhide HU4, if_neg hff]
        have Hhead := hide (head_any wr cN tN nB false (unhide HcN).1 (unhide HcN).2 (by omega) spa L cpa sa 0 na)
        have Hlt : Hid ((tagB cN tN false ++ lenB nB).length + (bs ++ dn.flatten).length ≤ 1073741824) := by
          show _ ≤ _
          rw [List.length_append, (unhide HW).nb]
          have h1 := len_tagB_le cN tN false
          have h2 := lenB_le (n := nB) (by omega)
          omega
        obtain ⟨TH, hTH⟩ : ∃ TH : Bs, tagB cN tN false ++ lenB nB = TH := ⟨_, rfl⟩
        rw [hTH] at HT Hlt Hhead
        obtain ⟨TN, hTN⟩ : ∃ TN, TH.length = TN := ⟨_, rfl⟩
        have HTN := hide hTN
        clear HU4 hTH hTN
        rcases (by cases fl <;> simp at hff ⊢ <;> omega : fl = false ∨ (fl = true ∧ cN ≠ 0) ∨ (fl = true ∧ cN = 0 ∧ tN ≠ 17)) with rfl | ⟨rfl, hc0⟩ | ⟨rfl, hc0, ht17⟩
        · clear hff
          go_upto_region 24 with fail
          go_wp2_with (first | (refine wpList_load_row rfl 33 _ rfl A rfl 33 _ (0, 0) _ (unhide HRAr) Tryz.underlying33 rfl hsz5 ?_) | fail)
          refine (unhide Hhead).mono ?_
          rintro e w7 ⟨v7, rfl, hR7⟩
          obtain ⟨s7, c7, rfl⟩ := hR7.own.form
          rw [unhide HTN] at hR7
          have eTN := unhide HTN
          rw [eTN]
          have HR7 := hide hR7
          have HBy := hide ((unhide HW).row.bytes.below hR7.b)
          clear hR7 eTN Hhead
          go_wp2_with (first
            | (at_builtin; refine wpList_append_row rfl _ _ rfl (.slice s7 TN c7) (.slice sB nB cB) TH (bs ++ dn.flatten) rfl (unhide HR7) rfl (unhide HBy) (unhide Hlt) ?_
               intro v8 w8 hR8
               have HR8 := hide hR8
               clear hR8))
          have hR9 := (unhide HR8).up (unhide HB0)
          refine bodyPost_ret (v := .tuple #[v8, .int .i64 0]) (by simp [results, Tryz.results106, go_sem]) rfl ?_
          rw [unhide HT]
          exact ⟨v8, rfl, hR9.own, hR9.b⟩
        · have m0 : ((cN : Int) == 0) = false := by simp; omega
          clear hff hc0
          go_upto_region 24 with fail
          go_wp2_with (first | (refine wpList_load_row rfl 33 _ rfl A rfl 33 _ (0, 0) _ (unhide HRAr) Tryz.underlying33 rfl hsz5 ?_) | fail)
          refine (unhide Hhead).mono ?_
          rintro e w7 ⟨v7, rfl, hR7⟩
          obtain ⟨s7, c7, rfl⟩ := hR7.own.form
          rw [unhide HTN] at hR7
          have eTN := unhide HTN
          rw [eTN]
          have HR7 := hide hR7
          have HBy := hide ((unhide HW).row.bytes.below hR7.b)
          clear hR7 eTN Hhead
          go_wp2_with (first
            | (at_builtin; refine wpList_append_row rfl _ _ rfl (.slice s7 TN c7) (.slice sB nB cB) TH (bs ++ dn.flatten) rfl (unhide HR7) rfl (unhide HBy) (unhide Hlt) ?_
               intro v8 w8 hR8
               have HR8 := hide hR8
               clear hR8))
          have hR9 := (unhide HR8).up (unhide HB0)
          refine bodyPost_ret (v := .tuple #[v8, .int .i64 0]) (by simp [results, Tryz.results106, go_sem]) rfl ?_
          rw [unhide HT]
          exact ⟨v8, rfl, hR9.own, hR9.b⟩
        · have m0 : ((cN : Int) == 0) = true := by simp; omega
          have m1 : ((tN : Int) == 17) = false := by simp; omega
          clear hff hc0 ht17
          go_upto_region 24 with fail
          go_wp2_with (first | (refine wpList_load_row rfl 33 _ rfl A rfl 33 _ (0, 0) _ (unhide HRAr) Tryz.underlying33 rfl hsz5 ?_) | fail)
          refine (unhide Hhead).mono ?_
          rintro e w7 ⟨v7, rfl, hR7⟩
          obtain ⟨s7, c7, rfl⟩ := hR7.own.form
          rw [unhide HTN] at hR7
          have eTN := unhide HTN
          rw [eTN]
          have HR7 := hide hR7
          have HBy := hide ((unhide HW).row.bytes.below hR7.b)
          clear hR7 eTN Hhead
          go_wp2_with (first
            | (at_builtin; refine wpList_append_row rfl _ _ rfl (.slice s7 TN c7) (.slice sB nB cB) TH (bs ++ dn.flatten) rfl (unhide HR7) rfl (unhide HBy) (unhide Hlt) ?_
               intro v8 w8 hR8
               have HR8 := hide hR8
               clear hR8))
          have hR9 := (unhide HR8).up (unhide HB0)
          refine bodyPost_ret (v := .tuple #[v8, .int .i64 0]) (by simp [results, Tryz.results106, go_sem]) rfl ?_
          rw [unhide HT]
          exact ⟨v8, rfl, hR9.own, hR9.b⟩
theorem writes_all : ∀ f, Writes f
  | 0 => writes_zero
  | f + 1 => writes_succ f (writes_all f)
end Go.Proofs.YtcofnockikninaaGreatDoor
/-
  The walk of the reference's Write.
-/
namespace Go.Proofs.YtcofnockikninaaGreatDoor
open Go.RowKit
set_option maxRecDepth 100000 in
set_option maxHeartbeats 4000000 in
theorem write_ref (n : Nat) (S : Nat → Prop) (v : DV) (w : World) (cs : List Value) (hv : VAt n S w cs v) (hw : weight v ≤ 100000) :
    Calls Tryz.prog 82 #[.agg cs.toArray] w fun e w' => ∃ x, e = .returned (.tuple #[x, .int .i64 (errOf (writeTop formD v) : Int)]) ∧ OwnB w' w.heap.size x (bytesOf (writeTop formD v)) ∧ Below w.heap.size w w' := by
  obtain ⟨p1, q1, p2, q2, rfl⟩ := hv.form
  have HV := hide hv
  unfold dcells at HV ⊢
  obtain ⟨kc, hkc⟩ : ∃ kc, v.cls = kc := ⟨_, rfl⟩
  obtain ⟨kt, hkt⟩ : ∃ kt, v.tag = kt := ⟨_, rfl⟩
  obtain ⟨km, hkm⟩ : ∃ km, v.made = km := ⟨_, rfl⟩
  obtain ⟨kl, hkl⟩ : ∃ kl, v.bytes.length = kl := ⟨_, rfl⟩
  obtain ⟨kk, hkk⟩ : ∃ kk, v.kids.length = kk := ⟨_, rfl⟩
  simp only [hkc, hkt, hkm, hkl, hkk] at HV ⊢
  clear hkc hkt hkm hkl hkk hv
  obtain ⟨w1, hw1⟩ : ∃ w1, w.alloc (.cells #[.int .i64 kc, .int .i64 kt, .bool km, .slice p1 kl q1, .slice p2 kk q2] 33) = w1 := ⟨_, rfl⟩
  have hb1 : Below w.heap.size w w1 := by rw [← hw1]; exact (Below.refl _ _).alloc (Nat.le_refl _) _
  have HRA : Hid (w1.heap[w.heap.size]? = some (.cells #[.int .i64 kc, .int .i64 kt, .bool km, .slice p1 kl q1, .slice p2 kk q2] 33 (0, 0))) := by show _ = _; rw [← hw1]; exact heap_alloc_new w _
  have Hb1 := hide hb1
  have Hc := hide (writes_all 17 n S v w1 _ 0 rfl ((unhide HV).below hb1) hw)
  obtain ⟨A, hA⟩ : ∃ A, w.heap.size = A := ⟨_, rfl⟩
  have HA := hide hA
  rw [hA] at HRA
  have hsz5 : (Tryz.prog.info? 33).map (·.size) = some 5 := by kernel_rfl
  have HU : Hid (writeTop formD v = match writeP formD 17 v with | .no e => .no e | .yes b => if 65536 < b.length then .no 54 else .yes b) := rfl
  have Hout : Hid (∀ b, writeP formD 17 v = .yes b → b.length ≤ 900000) := fun b hb => by have := out_le 17 v b (by omega) hb; omega
  obtain ⟨T, hT⟩ : ∃ T, writeTop formD v = T := ⟨_, rfl⟩
  rw [hT] at HU ⊢
  clear hb1 HV hw hT
  go_enter Tryz.func82, Tryz.ntmps82
  go_wp2_with (first | (refine wpList_load_row rfl 33 _ rfl A rfl 33 _ (0, 0) _ (unhide HRA) Tryz.underlying33 rfl hsz5 ?_) | fail)
  refine (unhide Hc).mono ?_
  rintro e w2 ⟨x, rfl, hown, hb2⟩
  have hB := (unhide Hb1).trans (hb2.mono (unhide Hb1).size)
  have HB := hide hB
  have hown1 : OwnB w2 w.heap.size x (bytesOf (writeP formD 17 v)) := OwnB.mono hown (unhide Hb1).size
  clear hb2 hown hB Hc hw1
  cases hk : writeP formD 17 v with
  | no e =>
    rw [hk] at hown1
    have he0 := write_pos formD 17 v e hk
    have HT : Hid (T = .no e) := by show _ = _; rw [unhide HU, hk]
    simp only [errOf]
    have g1 : ((e : Int) == 0) = false := by simp; omega
    obtain ⟨s5, c5, rfl⟩ := OwnB.form hown1
    simp only [bytesOf, List.length_nil] at hown1 ⊢
    have Ho := hide hown1
    clear hk hown1 HU
    go_wp2
    refine bodyPost_ret (v := .tuple #[.slice s5 0 c5, .int .i64 (e : Int)]) (by simp [results, Tryz.results82, go_sem]) rfl ?_
    rw [unhide HT]
    exact ⟨_, rfl, by first | exact unhide Ho | (rw [← unhide HA]; exact unhide Ho), by first | exact unhide HB | (rw [← unhide HA]; exact unhide HB)⟩
  | yes b =>
    rw [hk] at hown1
    have hbl := unhide Hout b hk
    have HU2 : Hid (T = if 65536 < b.length then .no 54 else .yes b) := by show _ = _; rw [unhide HU, hk]
    simp only [errOf]
    obtain ⟨s5, c5, rfl⟩ := OwnB.form hown1
    simp only [bytesOf] at hown1 ⊢
    have Ho := hide hown1
    obtain ⟨L, hL⟩ : ∃ L, b.length = L := ⟨_, rfl⟩
    rw [hL] at Ho HU2 hbl ⊢
    clear hk hown1 HU hL
    by_cases hbig : 65536 < L
    · have g1 : decide ((65536 : Int) < (L : Int)) = true := by simp; omega
      have g1n : decide (65536 < L) = true := by simp; omega
      have HT : Hid (T = .no 54) := by show _ = _; rw [unhide HU2, if_pos hbig]
      clear HU2
      go_wp2
      refine bodyPost_ret (v := .tuple #[.slice none 0 0, .int .i64 54]) (by simp [results, Tryz.results82, go_sem]) rfl ?_
      rw [unhide HT]
      exact ⟨_, rfl, ownb_nil _ _, by first | exact unhide HB | (rw [← unhide HA]; exact unhide HB)⟩
    · have g1 : decide ((65536 : Int) < (L : Int)) = false := by simp; omega
      have g1n : decide (65536 < L) = false := by simp; omega
      have HT : Hid (T = .yes b) := by show _ = _; rw [unhide HU2, if_neg hbig]
      clear HU2
      go_wp2
      refine bodyPost_ret (v := .tuple #[.slice s5 L c5, .int .i64 0]) (by simp [results, Tryz.results82, go_sem]) rfl ?_
      rw [unhide HT]
      exact ⟨_, rfl, by first | exact unhide Ho | (rw [← unhide HA]; exact unhide Ho), by first | exact unhide HB | (rw [← unhide HA]; exact unhide HB)⟩
end Go.Proofs.YtcofnockikninaaGreatDoor
/-
  The reference of layer 9, all that layer 10 wants of it.
-/
