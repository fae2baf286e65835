/-
  The walk of the landed store's cutPart.
-/
import Derived.Test.YtbjgknoipbekoaaGreatQ19
import Derived.BigQuiet
namespace Go.Proofs.YtbjgknoipbekoaaGreat
open Go.RowKit
/-- A part behind its length, and what is left. -/
def cutP (b : Bs) (size : Nat) : Option (Bs × Bs) := if b.length < size then none else if (b.drop size).length < numB (b.take size) then none else some ((b.drop size).take (numB (b.take size)), (b.drop size).drop (numB (b.take size)))
theorem cut_own {sp : Option Addr} {n c f m d k : Nat} (h : (Value.slice (cutAt sp c f) m d).ownBlock = some k) : (Value.slice sp n c).ownBlock = some k := by
  unfold cutAt at h
  cases sp with
  | none => split at h <;> simp [Value.ownBlock] at h
  | some a =>
    split at h
    · simpa [Value.ownBlock] using h
    · simp only [Value.ownBlock, Option.map_some, Addr.add] at h ⊢
      split at h <;> exact h
theorem ElS.part {K : Set_} {w : World} {sp : Option Addr} {c : Nat} {b : Bs} (h : ElS K w (.slice sp b.length c) b) (f e : Nat) (hf : f ≤ e) (he : e ≤ b.length) : ElS K w (.slice (cutAt sp c f) (e - f) (c - f)) ((b.drop f).take (e - f)) := by
  refine ⟨bytes_part h.at_ f e hf he, fun hne k hk => h.blk ?_ k (cut_own hk)⟩
  intro hb
  rw [hb] at hne
  simp at hne
theorem ElS.front {K : Set_} {w : World} {sp : Option Addr} {c : Nat} {b : Bs} (h : ElS K w (.slice sp b.length c) b) (e : Nat) (he : e ≤ b.length) : ElS K w (.slice sp e c) (b.take e) := by
  have h1 := h.part 0 e (by omega) he
  have h2 : cutAt sp c 0 = sp := by
    unfold cutAt
    split
    · rfl
    · cases sp <;> simp [Addr.add]
  rw [h2, Nat.sub_zero, Nat.sub_zero, List.drop_zero] at h1
  exact h1
theorem ElS.rest {K : Set_} {w : World} {sp : Option Addr} {c : Nat} {b : Bs} (h : ElS K w (.slice sp b.length c) b) (f : Nat) (hf : f ≤ b.length) : ElS K w (.slice (cutAt sp c f) (b.length - f) (c - f)) (b.drop f) := by
  have h1 := h.part f b.length hf (Nat.le_refl _)
  rw [List.take_of_length_le (by rw [List.length_drop]; omega)] at h1
  exact h1
theorem ElS.drewN {K : Set_} {w : World} {v : Value} {b : Bs} (h : ElS K w v b) (q : Nat) : ElS K (w.drewN q) v b := h.aside (S := none_) (Aside.of_below (below_drewNb (Below.refl _ _) q)) fun _ h => h.elim
theorem drewN_add (w : World) (a b : Nat) : (w.drewN a).drewN b = w.drewN (a + b) := by simp [World.drewN, Nat.add_assoc]
theorem quiet_snum {w : World} {x : Value} {b : Bs} {k : Nat} (hx : BytesAt w x b) (hl : b.length ≤ 4) (hk : numB b = k) (n : Nat) : Calls Tryz.prog 80 #[x] (w.drewN n) fun e w' => e = .returned (.int .i64 (k : Int)) ∧ ∃ q, w' = (w.drewN n).drewN q := by
  subst hk
  refine (snum_s (w.drewN n) x b (hx.below (below_drewNb (Below.refl _ _) n)) hl).mono ?_
  rintro e w' ⟨rfl, rfl⟩
  exact ⟨rfl, 0, rfl⟩
set_option maxRecDepth 100000 in
set_option maxHeartbeats 4000000 in
theorem scutp_c {K : Set_} {w : World} {x : Value} {b : Bs} (size : Nat) (hx : ElS K w x b) (h1 : 1 ≤ size) (h4 : size ≤ 4) (hb : b.length ≤ 1000000) :
    Calls Tryz.prog 103 #[x, .int .i64 (size : Int)] w fun e w' => (∃ pv rv, e = .returned (.tuple #[pv, rv, .bool (cutP b size).isSome]) ∧ ElS K w' pv (((cutP b size).getD ([], [])).1) ∧ ElS K w' rv (((cutP b size).getD ([], [])).2)) ∧ ∃ q, w' = w.drewN q := by
  obtain ⟨sp, c, rfl, hlc, hn, _⟩ := bytes_open hx.at_
  by_cases hs : b.length < size
  · have e0 : cutP b size = none := if_pos hs
    rw [e0]
    obtain ⟨N, hN⟩ : ∃ N, b.length = N := ⟨_, rfl⟩
    rw [hN] at hs ⊢
    have d1 : decide ((N : Int) < (size : Int)) = true := by simp; omega
    have d1n : decide (N < size) = true := by simp; omega
    have HE : Hid (ElS K w (.slice none 0 0) []) := ElS.nil K w
    clear hx hn hN hlc hb e0
    go_enter Tryz.func103, Tryz.ntmps103
    go_wp2
    go_ret3
    exact ⟨⟨_, _, rfl, unhide HE, unhide HE⟩, 0, rfl⟩
  · have H1 := hide (hx.front size (by omega))
    have H2 := hide (hx.rest size (by omega))
    have e0 : cutP b size = if (b.drop size).length < numB (b.take size) then none else some ((b.drop size).take (numB (b.take size)), (b.drop size).drop (numB (b.take size))) := if_neg hs
    have hk4 : (b.take size).length ≤ 4 := by rw [List.length_take]; omega
    have hm4 := num_small4 (b.take size) 4 hk4
    rw [List.take_of_length_le hk4] at hm4
    obtain ⟨m, hm⟩ : ∃ m, numB (b.take size) = m := ⟨_, rfl⟩
    have Hq := hide (fun n => quiet_snum (k := m) (unhide H1).at_ hk4 hm n)
    have hrl : (b.drop size).length = b.length - size := List.length_drop
    rw [hm] at e0 hm4
    have s1 : ∀ w, (Instr.sliceAt 23 (.slice sp b.length c) none (some (.int .i64 (size : Int))) none).run Tryz.prog w = .ok (.slice sp size c) w := fun w => slice_front sp b.length c size (by omega) w
    have s2 : ∀ w, (Instr.sliceAt 23 (.slice sp b.length c) (some (.int .i64 (size : Int))) none none).run Tryz.prog w = .ok (.slice (cutAt sp c size) (b.length - size) (c - size)) w := fun w => slice_rest sp b.length c size (by omega) w
    have d1 : decide ((b.length : Int) < (size : Int)) = false := by simp; omega
    have d1n : decide (b.length < size) = false := by simp; omega
    obtain ⟨sr, hsr⟩ : ∃ y, cutAt sp c size = y := ⟨_, rfl⟩
    obtain ⟨RL, hRL⟩ : ∃ y, b.length - size = y := ⟨_, rfl⟩
    obtain ⟨cr, hcr⟩ : ∃ y, c - size = y := ⟨_, rfl⟩
    obtain ⟨r, hr⟩ : ∃ y, b.drop size = y := ⟨_, rfl⟩
    obtain ⟨N, hN⟩ : ∃ N, b.length = N := ⟨_, rfl⟩
    rw [hsr, hRL, hcr] at s2 H2
    rw [hr] at e0 H2 hrl
    rw [hRL] at hrl
    have hcrl : RL ≤ cr := by omega
    have hRb : RL ≤ 1000000 := by omega
    rw [hN] at d1 d1n s1 s2 ⊢
    by_cases hlt : RL < m
    · have e1 : cutP b size = none := by rw [e0, hrl, if_pos hlt]
      rw [e1]
      have d2 : decide ((RL : Int) < (m : Int)) = true := by simp; omega
      have d2n : decide (RL < m) = true := by simp; omega
      clear hx hn hN hlc hb e0 e1 hs hk4 hm hr hcr hRL hsr hrl H1 H2
      go_enter Tryz.func103, Tryz.ntmps103
      go_wp2
      go_big_quiet (first | (go_at_call 80; refine Calls.quiet_of (unhide Hq _)) | fail)
      have HE : Hid (ElS K (w.drewN nq) (.slice none 0 0) []) := ElS.nil K _
      go_wp2
      go_ret3
      exact ⟨⟨_, _, rfl, unhide HE, unhide HE⟩, _, rfl⟩
    · have e1 : cutP b size = some (r.take m, r.drop m) := by rw [e0, hrl, if_neg hlt]
      rw [e1]
      have d2 : decide ((RL : Int) < (m : Int)) = false := by simp; omega
      have d2n : decide (RL < m) = false := by simp; omega
      have H2' := unhide H2
      rw [← hrl] at H2'
      have HP := hide (H2'.front m (by omega))
      have HQ := hide (H2'.rest m (by omega))
      rw [hrl] at HQ
      have s3 : ∀ w, (Instr.sliceAt 23 (.slice sr RL cr) none (some (.int .i64 (m : Int))) none).run Tryz.prog w = .ok (.slice sr m cr) w := fun w => slice_front sr RL cr m (by omega) w
      have s4 : ∀ w, (Instr.sliceAt 23 (.slice sr RL cr) (some (.int .i64 (m : Int))) none none).run Tryz.prog w = .ok (.slice (cutAt sr cr m) (RL - m) (cr - m)) w := fun w => slice_rest sr RL cr m (by omega) w
      obtain ⟨sq, hsq⟩ : ∃ y, cutAt sr cr m = y := ⟨_, rfl⟩
      obtain ⟨QL, hQL⟩ : ∃ y, RL - m = y := ⟨_, rfl⟩
      obtain ⟨cq, hcq⟩ : ∃ y, cr - m = y := ⟨_, rfl⟩
      rw [hsq, hQL, hcq] at s4 HQ
      clear hx hn hN hlc hb e0 e1 hs hk4 hm hr hcr hRL hsr hrl H1 H2 H2' hsq hQL hcq
      go_enter Tryz.func103, Tryz.ntmps103
      go_wp2
      go_big_quiet (first | (go_at_call 80; refine Calls.quiet_of (unhide Hq _)) | fail)
      go_wp2
      go_big_quiet (fail)
      go_wp2
      go_ret3
      exact ⟨⟨_, _, rfl, ((unhide HP).drewN _).drewN _, ((unhide HQ).drewN _).drewN _⟩, _, drewN_add _ _ _⟩
end Go.Proofs.YtbjgknoipbekoaaGreat
