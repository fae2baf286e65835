/-
  The walk of the reference's right: the tags whose bytes are gone through (6, 19, 22).
-/
import Derived.Test.YtngkidlgcdofhaaDoorRightA
import Derived.Test.YtngkidlgcdofhaaDoorLeaf9
namespace Go.Proofs.YtngkidlgcdofhaaDoor
open Go.RowKit
theorem right19 (b : Bs) : rightP 19 b = b.all printP := by
  unfold rightP
  rw [if_neg (by omega), if_neg (by omega), if_neg (by omega), if_neg (by omega), if_neg (by omega), if_neg (by omega), if_pos rfl]
theorem right22 (b : Bs) : rightP 22 b = b.all fun c => decide (c.toNat < 128) := by
  unfold rightP
  rw [if_neg (by omega), if_neg (by omega), if_neg (by omega), if_neg (by omega), if_neg (by omega), if_neg (by omega), if_neg (by omega), if_pos rfl]
theorem right6 (b : Bs) : rightP 6 b = oidP b := by
  unfold rightP
  rw [if_neg (by omega), if_neg (by omega), if_neg (by omega), if_neg (by omega), if_pos rfl]
theorem all_not {b : Bs} {f : UInt8 → Bool} {k : Nat} (hk : k < b.length) (h : f (b.getD k 0) = false) : b.all f = false := by
  rw [List.all_eq_false]
  refine ⟨b.getD k 0, ?_, by rw [h]; simp⟩
  rw [List.getD_eq_getElem?_getD, List.getElem?_eq_getElem hk, Option.getD_some]
  exact List.getElem_mem hk
theorem all_all {b : Bs} {f : UInt8 → Bool} (h : ∀ k, k < b.length → f (b.getD k 0) = true) : b.all f = true := by
  rw [List.all_eq_true]
  intro c hc
  obtain ⟨k, hk, rfl⟩ := List.getElem_of_mem hc
  have := h k hk
  rwa [List.getD_eq_getElem?_getD, List.getElem?_eq_getElem hk, Option.getD_some] at this
/-- A group's beginning that is nought. -/
def badAt (b : Bs) (i : Nat) : Bool := decide ((b.getD i 0).toNat = 128) && (decide (i = 0) || decide ((b.getD (i - 1) 0).toNat < 128))
theorem oidP_eq (b : Bs) : oidP b = (((List.range b.length).all fun i => !badAt b i) && decide (0 < b.length) && decide ((b.getD (b.length - 1) 0).toNat < 128)) := by
  unfold oidP badAt
  congr 2
  congr 1
  funext i
  rw [← u8_dec _ 128 (by omega)]
  rfl
theorem oid_bad {b : Bs} {k : Nat} (hk : k < b.length) (h : badAt b k = true) : oidP b = false := by
  rw [oidP_eq]
  have : ((List.range b.length).all fun i => !badAt b i) = false := by
    rw [List.all_eq_false]
    exact ⟨k, List.mem_range.2 hk, by rw [h]; simp⟩
  rw [this]
  rfl
theorem oid_good {b : Bs} (h : ∀ k, k < b.length → badAt b k = false) : oidP b = (decide (0 < b.length) && decide ((b.getD (b.length - 1) 0).toNat < 128)) := by
  rw [oidP_eq]
  have : ((List.range b.length).all fun i => !badAt b i) = true := by
    rw [List.all_eq_true]
    intro k hk
    rw [h k (List.mem_range.1 hk)]
    rfl
  rw [this]
  rfl
set_option maxRecDepth 100000 in
set_option maxHeartbeats 4000000 in
theorem right_22 (w : World) (x : Value) (b : Bs) (hx : BytesAt w x b) (hl : b.length ≤ 100000) :
    Calls Tryd.prog 37 #[.int .i64 22, x] w fun e w' => e = .returned (.bool (rightP 22 b)) ∧ Below w.heap.size w w' := by
  have HR := hide (right22 b)
  obtain ⟨sp, c, rfl, _, _, _⟩ := bytes_open hx
  obtain ⟨N, hN⟩ : ∃ N, b.length = N := ⟨_, rfl⟩
  have HN := hide hN
  rw [hN] at hx hl ⊢
  have HX := hide hx
  have Hb := hide (Below.refl w.heap.size w)
  clear hx hN
  go_enter Tryd.func37, Tryd.ntmps37
  go_wp2
  go_loopw [8] (fun ii wr => ∃ k : Nat, k ≤ N ∧ ii = .int .i64 (k : Int) ∧ wr = w ∧ Hid (∀ j, j < k → decide ((b.getD j 0).toNat < 128) = true)) (fun ii _ => N - (intOf ii).toNat)
  case atStart => exact ⟨0, by omega, rfl, rfl, fun j hj => by omega⟩
  case round =>
    obtain ⟨k, hk, rfl, hwr, HE⟩ := hrel
    have := hwr.symm
    subst this
    by_cases hlt : k < N
    · obtain ⟨ba, oa, p, rfl, hp, hpb, hc⟩ := byte_at (unhide HX) (unhide HN) k hlt
      have Hp := hide hp
      have d1 : decide ((k : Int) < (N : Int)) = true := by simp; omega
      have d1n : decide (k < N) = true := by simp; omega
      have k0 : (0 : Int) ≤ (k : Int) := by omega
      have k1 : (k : Int) < (N : Int) := by omega
      clear hp
      by_cases h128 : 128 ≤ p
      · have HT : Hid (rightP 22 b = false) := by show _ = _; rw [unhide HR]; exact all_not (by rw [unhide HN]; exact hlt) (by rw [unhide Hp]; simp; omega)
        have d2 : decide ((128 : Int) ≤ (p : Int)) = true := by simp; omega
        have d2n : decide (128 ≤ p) = true := by simp; omega
        clear HE HR
        go_wp2
        go_ret
        exact ⟨by rw [unhide HT]; rfl, unhide Hb⟩
      · have HE2 : Hid (∀ j, j < k + 1 → decide ((b.getD j 0).toNat < 128) = true) := fun j hj => by
          by_cases e : j = k
          · rw [e, unhide Hp]; simp; omega
          · exact unhide HE j (by omega)
        have d2 : decide ((128 : Int) ≤ (p : Int)) = false := by simp; omega
        have d2n : decide (128 ≤ p) = false := by simp; omega
        clear HE HR
        go_wp2
        go_roundw
        case rel =>
          first
            | exact ⟨k + 1, by omega, by go_num, rfl, HE2⟩
            | exact ⟨k + 1, by omega, by go_num, trivial, HE2⟩
            | ((repeat apply Exists.intro); exact ⟨⟨k + 1, by omega, by go_num, rfl, HE2⟩, rfl⟩)
            | ((repeat apply Exists.intro); exact ⟨⟨k + 1, by omega, by go_num, trivial, HE2⟩, rfl⟩)
        case measure => simp [intOf]; omega
    · obtain rfl : k = N := by omega
      have d1 : decide ((k : Int) < (k : Int)) = false := by simp
      have HT : Hid (rightP 22 b = true) := by show _ = _; rw [unhide HR]; exact all_all (fun j hj => unhide HE j (by rw [← unhide HN]; exact hj))
      clear HE HR
      go_wp2
      go_ret
      exact ⟨by rw [unhide HT]; rfl, unhide Hb⟩
set_option maxRecDepth 100000 in
set_option maxHeartbeats 4000000 in
theorem right_19 (w : World) (x : Value) (b : Bs) (hx : BytesAt w x b) (hl : b.length ≤ 100000) :
    Calls Tryd.prog 37 #[.int .i64 19, x] w fun e w' => e = .returned (.bool (rightP 19 b)) ∧ Below w.heap.size w w' := by
  have HR := hide (right19 b)
  obtain ⟨sp, c, rfl, _, _, _⟩ := bytes_open hx
  obtain ⟨N, hN⟩ : ∃ N, b.length = N := ⟨_, rfl⟩
  have HN := hide hN
  rw [hN] at hx hl ⊢
  have HX := hide hx
  have Hb := hide (Below.refl w.heap.size w)
  clear hx hN
  go_enter Tryd.func37, Tryd.ntmps37
  go_wp2
  go_loopw [7] (fun ii wr => ∃ k : Nat, k ≤ N ∧ ii = .int .i64 (k : Int) ∧ wr = w ∧ Hid (∀ j, j < k → printP (b.getD j 0) = true)) (fun ii _ => N - (intOf ii).toNat)
  case atStart => exact ⟨0, by omega, rfl, rfl, fun j hj => by omega⟩
  case round =>
    obtain ⟨k, hk, rfl, hwr, HE⟩ := hrel
    have := hwr.symm
    subst this
    by_cases hlt : k < N
    · obtain ⟨ba, oa, p, rfl, hp, hpb, hc⟩ := byte_at (unhide HX) (unhide HN) k hlt
      have Hpr := hide (print_any (b.getD k 0) w)
      unfold bv at Hpr
      rw [hp] at Hpr
      have d1 : decide ((k : Int) < (N : Int)) = true := by simp; omega
      have d1n : decide (k < N) = true := by simp; omega
      have k0 : (0 : Int) ≤ (k : Int) := by omega
      have k1 : (k : Int) < (N : Int) := by omega
      obtain ⟨u, hu⟩ : ∃ u, printP (b.getD k 0) = u := ⟨_, rfl⟩
      have Hu := hide hu
      rw [hu] at Hpr
      clear hp hu
      go_wp2_with fail
      refine (unhide Hpr).mono ?_
      rintro e w1 ⟨rfl, rfl⟩
      cases u with
      | false =>
        have HT : Hid (rightP 19 b = false) := by show _ = _; rw [unhide HR]; exact all_not (by rw [unhide HN]; exact hlt) (unhide Hu)
        clear HE HR Hpr
        go_wp2
        go_ret
        exact ⟨by rw [unhide HT]; rfl, unhide Hb⟩
      | true =>
        have HE2 : Hid (∀ j, j < k + 1 → printP (b.getD j 0) = true) := fun j hj => by
          by_cases e : j = k
          · rw [e]; exact unhide Hu
          · exact unhide HE j (by omega)
        clear HE HR Hpr
        go_wp2
        go_roundw
        case rel =>
          first
            | exact ⟨k + 1, by omega, by go_num, rfl, HE2⟩
            | exact ⟨k + 1, by omega, by go_num, trivial, HE2⟩
            | ((repeat apply Exists.intro); exact ⟨⟨k + 1, by omega, by go_num, rfl, HE2⟩, rfl⟩)
            | ((repeat apply Exists.intro); exact ⟨⟨k + 1, by omega, by go_num, trivial, HE2⟩, rfl⟩)
        case measure => simp [intOf]; omega
    · obtain rfl : k = N := by omega
      have d1 : decide ((k : Int) < (k : Int)) = false := by simp
      have HT : Hid (rightP 19 b = true) := by show _ = _; rw [unhide HR]; exact all_all (fun j hj => unhide HE j (by rw [← unhide HN]; exact hj))
      clear HE HR
      go_wp2
      go_ret
      exact ⟨by rw [unhide HT]; rfl, unhide Hb⟩
set_option maxRecDepth 100000 in
set_option maxHeartbeats 4000000 in
theorem right_6 (w : World) (x : Value) (b : Bs) (hx : BytesAt w x b) (hl : b.length ≤ 100000) :
    Calls Tryd.prog 37 #[.int .i64 6, x] w fun e w' => e = .returned (.bool (rightP 6 b)) ∧ Below w.heap.size w w' := by
  have HR := hide (right6 b)
  obtain ⟨sp, c, rfl, _, _, _⟩ := bytes_open hx
  obtain ⟨N, hN⟩ : ∃ N, b.length = N := ⟨_, rfl⟩
  have HN := hide hN
  rw [hN] at hx hl ⊢
  have HX := hide hx
  have Hb := hide (Below.refl w.heap.size w)
  clear hx hN
  go_enter Tryd.func37, Tryd.ntmps37
  go_wp2
  go_loopw [6] (fun ii wr => ∃ k : Nat, k ≤ N ∧ ii = .int .i64 (k : Int) ∧ wr = w ∧ Hid (∀ j, j < k → badAt b j = false)) (fun ii _ => N - (intOf ii).toNat)
  case atStart => exact ⟨0, by omega, rfl, rfl, fun j hj => by omega⟩
  case round =>
    obtain ⟨k, hk, rfl, hwr, HE⟩ := hrel
    have := hwr.symm
    subst this
    by_cases hlt : k < N
    · obtain ⟨ba, oa, p, rfl, hp, hpb, hc⟩ := byte_at (unhide HX) (unhide HN) k hlt
      have Hp := hide hp
      have d1 : decide ((k : Int) < (N : Int)) = true := by simp; omega
      have d1n : decide (k < N) = true := by simp; omega
      have k0 : (0 : Int) ≤ (k : Int) := by omega
      have k1 : (k : Int) < (N : Int) := by omega
      have HE2 : badAt b k = false → Hid (∀ j, j < k + 1 → badAt b j = false) := fun hbad j hj => by
        by_cases e : j = k
        · rw [e]; exact hbad
        · exact unhide HE j (by omega)
      clear hp
      by_cases h128 : p = 128
      · subst h128
        by_cases hk0 : k = 0
        · subst hk0
          have HT : Hid (rightP 6 b = false) := by show _ = _; rw [unhide HR]; exact oid_bad (by rw [unhide HN]; exact hlt) (by unfold badAt; rw [unhide Hp]; rfl)
          rw [Nat.add_zero] at hc
          clear HE HR HE2
          go_wp2
          go_ret
          exact ⟨by rw [unhide HT]; rfl, unhide Hb⟩
        · obtain ⟨K, hK⟩ : ∃ K, k - 1 = K := ⟨_, rfl⟩
          obtain ⟨ba', oa', q, e, hq, hqb, hc2⟩ := byte_at (unhide HX) (unhide HN) K (by omega)
          simp only [Option.some.injEq, Addr.mk.injEq, and_true] at e
          obtain ⟨rfl, rfl⟩ := e
          have eK : (k : Int) - 1 = (K : Int) := by omega
          have K0 : (0 : Int) ≤ (K : Int) := by omega
          have K1 : (K : Int) < (N : Int) := by omega
          have e0 : ((k : Int) == 0) = false := by simp; omega
          have hbad : badAt b k = decide (q < 128) := by
            unfold badAt
            rw [unhide Hp, hK, hq, decide_eq_false hk0]
            simp
          by_cases hq128 : q < 128
          · have HT : Hid (rightP 6 b = false) := by show _ = _; rw [unhide HR]; exact oid_bad (by rw [unhide HN]; exact hlt) (by rw [hbad]; simp; omega)
            have d2 : decide ((q : Int) < 128) = true := by simp; omega
            have d2n : decide (q < 128) = true := by simp; omega
            clear HE HR HE2 hbad hq hK
            go_wp2
            go_ret
            exact ⟨by rw [unhide HT]; rfl, unhide Hb⟩
          · have HE3 := HE2 (by rw [hbad]; simp; omega)
            have d2 : decide ((q : Int) < 128) = false := by simp; omega
            have d2n : decide (q < 128) = false := by simp; omega
            clear HE HR HE2 hbad hq hK
            go_wp2
            go_roundw
            case rel =>
              first
                | exact ⟨k + 1, by omega, by go_num, rfl, HE3⟩
                | exact ⟨k + 1, by omega, by go_num, trivial, HE3⟩
                | ((repeat apply Exists.intro); exact ⟨⟨k + 1, by omega, by go_num, rfl, HE3⟩, rfl⟩)
                | ((repeat apply Exists.intro); exact ⟨⟨k + 1, by omega, by go_num, trivial, HE3⟩, rfl⟩)
            case measure => simp [intOf]; omega
      · have HE3 := HE2 (by unfold badAt; rw [unhide Hp, decide_eq_false h128]; rfl)
        have d2 : ((p : Int) == 128) = false := by simp; omega
        clear HE HR HE2
        go_wp2
        go_roundw
        case rel =>
          first
            | exact ⟨k + 1, by omega, by go_num, rfl, HE3⟩
            | exact ⟨k + 1, by omega, by go_num, trivial, HE3⟩
            | ((repeat apply Exists.intro); exact ⟨⟨k + 1, by omega, by go_num, rfl, HE3⟩, rfl⟩)
            | ((repeat apply Exists.intro); exact ⟨⟨k + 1, by omega, by go_num, trivial, HE3⟩, rfl⟩)
        case measure => simp [intOf]; omega
    · obtain rfl : k = N := by omega
      have d1 : decide ((k : Int) < (k : Int)) = false := by simp
      have HT : Hid (rightP 6 b = (decide (0 < k) && decide ((b.getD (k - 1) 0).toNat < 128))) := by
        show _ = _
        rw [unhide HR, oid_good (fun j hj => unhide HE j (by rw [← unhide HN]; exact hj)), unhide HN]
      clear HE HR
      by_cases hk0 : k = 0
      · subst hk0
        go_wp2
        go_ret
        exact ⟨by rw [unhide HT]; rfl, unhide Hb⟩
      · obtain ⟨K, hK⟩ : ∃ K, k - 1 = K := ⟨_, rfl⟩
        obtain ⟨ba, oa, q, rfl, hq, hqb, hc2⟩ := byte_at (unhide HX) (unhide HN) K (by omega)
        have eK : (k : Int) - 1 = (K : Int) := by omega
        have K0 : (0 : Int) ≤ (K : Int) := by omega
        have K1 : (K : Int) < (k : Int) := by omega
        have kb : (k : Int) ≤ 100000 := by omega
        have d2 : decide ((0 : Int) < (k : Int)) = true := by simp; omega
        have d2n : decide (0 < k) = true := by simp; omega
        rw [hK, hq, d2n] at HT
        clear hq hK
        by_cases hq128 : q < 128
        · have d3 : decide ((q : Int) < 128) = true := by simp; omega
          have d3n : decide (q < 128) = true := by simp; omega
          rw [d3n] at HT
          go_wp2
          go_ret
          exact ⟨by rw [unhide HT]; rfl, unhide Hb⟩
        · have d3 : decide ((q : Int) < 128) = false := by simp; omega
          have d3n : decide (q < 128) = false := by simp; omega
          rw [d3n] at HT
          go_wp2
          go_ret
          exact ⟨by rw [unhide HT]; rfl, unhide Hb⟩
end Go.Proofs.YtngkidlgcdofhaaDoor
