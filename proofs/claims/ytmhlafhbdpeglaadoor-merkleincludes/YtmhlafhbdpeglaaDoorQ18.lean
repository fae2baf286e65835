/-
  The walks of the reference's Path and Bridge.
  The walk of MerklePaths.
  The walk of MerkleBridges.
-/
import Derived.Test.YtmhlafhbdpeglaaDoorQ15
import Derived.Test.YtmhlafhbdpeglaaDoorQ14
import Derived.Test.YtmhlafhbdpeglaaDoorQ16
namespace Go.Proofs.YtmhlafhbdpeglaaDoor
open Go.RowKit
set_option maxRecDepth 100000 in
set_option maxHeartbeats 4000000 in
theorem qpath_c {g : Nat → Bs} (hg : ∀ i, (g i).length = 32) (B : Nat) : ∀ (n f m : Nat), m < n → n ≤ 101 → ∀ (w : World) (s : Option Addr) (c : Nat), B ≤ w.heap.size → HL B w (.slice s n c) g f n → GivesL w 18 #[.int .i64 (m : Int), .slice s n c] (pathP Sha.shaOf g f m n) := by
  intro n
  induction n using Nat.strongRecOn with
  | ind n ih =>
    intro f m hm hn w s c hB hx
    have n0 : (1 : Int) ≤ (n : Int) := by omega
    have n1 : (n : Int) ≤ 101 := by omega
    have m0 : (0 : Int) ≤ (m : Int) := by omega
    have m1 : (m : Int) < (n : Int) := by omega
    by_cases h1 : n = 1
    · subst h1
      have He := hide (path_one Sha.shaOf g f m)
      clear ih hx hg hB
      go_enter Tryd.func18, Tryd.ntmps18
      go_wp2
      go_ret
      exact ⟨_, rfl, by rw [unhide He]; exact grl_nil w _, Below.refl _ _⟩
    · have hn2 : 2 ≤ n := by omega
      have d1 : ((n : Int) == 1) = false := by simp; omega
      have hk1 := cut_lt hn2
      have hk0 := cut_pos n
      obtain ⟨_, _, e0, hnc⟩ := hx.form
      simp only [Value.slice.injEq] at e0
      obtain ⟨rfl, _, rfl⟩ := e0
      have Hcu := hide (fun w => qcut_c w n hn2 (by omega))
      have hx1 := hx.front (cutP n) (by omega)
      have hx2 := hx.rest (cutP n) (by omega)
      have hs1 : ∀ w, (Instr.sliceAt 22 (.slice s n c) none (some (.int .i64 (cutP n : Int))) none).run Tryd.prog w = .ok (.slice s (cutP n) c) w := slice_frontbb _ _ _ _ (by omega)
      have hs2 : ∀ w, (Instr.sliceAt 22 (.slice s n c) (some (.int .i64 (cutP n : Int))) none none).run Tryd.prog w = .ok (.slice (cutAt s c (cutP n)) (n - cutP n) (c - cutP n)) w := slice_restbb _ _ _ _ (by omega)
      have hdr : Below w.heap.size w w.drew := (Below.refl _ _).drew
      have HBd : Hid (B ≤ w.drew.heap.size) := hB
      by_cases hmk : m < cutP n
      · have Hi1 := hide (ih (cutP n) hk1 f m hmk (by omega))
        have Hi2 := hide (qroot_c hg B (n - cutP n) (f + cutP n) (by omega))
        have He := hide (path_left Sha.shaOf g f hn2 hmk)
        have Hfew : Hid ((pathP Sha.shaOf g f m (cutP n)).length + 1 ≤ 1073741824) := by show _ ≤ _; have := path_few (g := g) (f := f) (m := m) (n := cutP n) (by omega); omega
        obtain ⟨K, hK⟩ : ∃ K, cutP n = K := ⟨_, rfl⟩
        rw [hK] at hk1 hk0 Hi1 Hi2 He Hcu hx1 hx2 hs1 hs2 hmk Hfew
        obtain ⟨n', hn'⟩ : ∃ n', n - K = n' := ⟨_, rfl⟩
        obtain ⟨f', hf'⟩ : ∃ f', f + K = f' := ⟨_, rfl⟩
        obtain ⟨s', hs'⟩ : ∃ s', cutAt s c K = s' := ⟨_, rfl⟩
        obtain ⟨c', hc'⟩ : ∃ c', c - K = c' := ⟨_, rfl⟩
        rw [hn', hf'] at Hi2 He
        rw [hn', hf', hs', hc'] at hx2
        rw [hn', hs', hc'] at hs2
        have k0 : (1 : Int) ≤ (K : Int) := by omega
        have k1 : (K : Int) < (n : Int) := by omega
        have dm : decide ((m : Int) < (K : Int)) = true := by simp; omega
        have dmn : decide (m < K) = true := by simp; omega
        have HX1 := hide (hx1.below hdr)
        have HX2 := hide (hx2.below hdr)
        have Hdr := hide hdr
        clear hK hn' hf' hs' hc' ih hx hx1 hx2 hg hn2 hdr hB hnc hn hmk
        go_enter Tryd.func18, Tryd.ntmps18
        go_wp2_with fail
        refine (unhide Hcu w).mono ?_
        rintro e w' ⟨rfl, hw'⟩
        subst hw'
        go_wp2
        go_region_held3 (fun _ => True) (trivial)
          ((first
            | (go_at_call 18; refine (unhide Hi1 w'.drew s c (unhide HBd) (unhide HX1)).mono ?_; rintro e w1 ⟨v1, rfl, hG1, hb1⟩; obtain ⟨s1, c1, rfl⟩ := hG1.form; have HG1 := hide hG1; have HB1 := hide hb1; clear hG1 hb1)
            | (go_at_call 15; refine (unhide Hi2 w1 s' c' (by have := unhide HBd; have := (unhide HB1).size; omega) ((unhide HX2).below (unhide HB1))).mono ?_; rintro e w2 ⟨v2, rfl, hv2, hb2, hq2⟩; have HL := hide (grl_lit (unhide HG1) (unhide HB1) hv2 hb2 (fun k hk => by have := hq2 k hk; have := unhide HBd; omega)); obtain ⟨s2, n2, c2, rfl⟩ := hv2.forms; clear hv2 hb2 hq2)
            | (refine step_append_grl rfl _ _ rfl w'.drew.heap.size _ _ _ _ _ (by simp [Act.eval]) (unhide HL).1 (by simp [Act.eval]) (unhide HL).2.1 (unhide HL).2.2.1 (unhide HL).2.2.2.1 (unhide HL).2.2.2.2.1 (unhide Hfew) ?_; intro v4 w4 hG4 hg4 _; have HF : Hid (GrL w4 w'.drew.heap.size v4 (pathP Sha.shaOf g f m n) ∧ Below w'.drew.heap.size w'.drew w4) := (by show _ ∧ _; rw [unhide He]; exact ⟨hG4, grl_below (unhide HL).1 (unhide HL).2.2.2.2.2 hg4⟩); clear hG4 hg4)))
        go_wp2
        go_ret
        exact ⟨_, rfl, (unhide HF).1, (unhide Hdr).trans ((unhide HF).2)⟩
      · have Hi1 := hide (ih (n - cutP n) (by omega) (f + cutP n) (m - cutP n) (by omega) (by omega))
        have Hi2 := hide (qroot_c hg B (cutP n) f (by omega))
        have He := hide (path_right Sha.shaOf g f hn2 (show cutP n ≤ m by omega))
        have Hfew : Hid ((pathP Sha.shaOf g (f + cutP n) (m - cutP n) (n - cutP n)).length + 1 ≤ 1073741824) := by show _ ≤ _; have := path_few (g := g) (f := f + cutP n) (m := m - cutP n) (n := n - cutP n) (by omega); omega
        obtain ⟨K, hK⟩ : ∃ K, cutP n = K := ⟨_, rfl⟩
        rw [hK] at hk1 hk0 Hi1 Hi2 He Hcu hx1 hx2 hs1 hs2 hmk Hfew
        obtain ⟨n', hn'⟩ : ∃ n', n - K = n' := ⟨_, rfl⟩
        obtain ⟨f', hf'⟩ : ∃ f', f + K = f' := ⟨_, rfl⟩
        obtain ⟨m', hm'⟩ : ∃ m', m - K = m' := ⟨_, rfl⟩
        obtain ⟨s', hs'⟩ : ∃ s', cutAt s c K = s' := ⟨_, rfl⟩
        obtain ⟨c', hc'⟩ : ∃ c', c - K = c' := ⟨_, rfl⟩
        rw [hn', hf', hm'] at Hi1 He Hfew
        rw [hn', hf', hs', hc'] at hx2
        rw [hn', hs', hc'] at hs2
        have k0 : (1 : Int) ≤ (K : Int) := by omega
        have k1 : (K : Int) < (n : Int) := by omega
        have e4 : IntKind.i64.wrap ((m : Int) - (K : Int)) = (m' : Int) := by rw [IntWalk.i64_in _ (by omega)]; omega
        have dm : decide ((m : Int) < (K : Int)) = false := by simp; omega
        have dmn : decide (m < K) = false := by simp; omega
        have HX1 := hide (hx1.below hdr)
        have HX2 := hide (hx2.below hdr)
        have Hdr := hide hdr
        clear hm' hK hn' hf' hs' hc' ih hx hx1 hx2 hg hn2 hdr hB hnc hn hmk
        go_enter Tryd.func18, Tryd.ntmps18
        go_wp2_with fail
        refine (unhide Hcu w).mono ?_
        rintro e w' ⟨rfl, hw'⟩
        subst hw'
        go_wp2
        go_region_held3 (fun _ => True) (trivial)
          ((first
            | (go_at_call 18; refine (unhide Hi1 w'.drew s' c' (unhide HBd) (unhide HX2)).mono ?_; rintro e w1 ⟨v1, rfl, hG1, hb1⟩; obtain ⟨s1, c1, rfl⟩ := hG1.form; have HG1 := hide hG1; have HB1 := hide hb1; clear hG1 hb1)
            | (go_at_call 15; refine (unhide Hi2 w1 s c (by have := unhide HBd; have := (unhide HB1).size; omega) ((unhide HX1).below (unhide HB1))).mono ?_; rintro e w2 ⟨v2, rfl, hv2, hb2, hq2⟩; have HL := hide (grl_lit (unhide HG1) (unhide HB1) hv2 hb2 (fun k hk => by have := hq2 k hk; have := unhide HBd; omega)); obtain ⟨s2, n2, c2, rfl⟩ := hv2.forms; clear hv2 hb2 hq2)
            | (refine step_append_grl rfl _ _ rfl w'.drew.heap.size _ _ _ _ _ (by simp [Act.eval]) (unhide HL).1 (by simp [Act.eval]) (unhide HL).2.1 (unhide HL).2.2.1 (unhide HL).2.2.2.1 (unhide HL).2.2.2.2.1 (unhide Hfew) ?_; intro v4 w4 hG4 hg4 _; have HF : Hid (GrL w4 w'.drew.heap.size v4 (pathP Sha.shaOf g f m n) ∧ Below w'.drew.heap.size w'.drew w4) := (by show _ ∧ _; rw [unhide He]; exact ⟨hG4, grl_below (unhide HL).1 (unhide HL).2.2.2.2.2 hg4⟩); clear hG4 hg4)))
        go_wp2
        go_ret
        exact ⟨_, rfl, (unhide HF).1, (unhide Hdr).trans ((unhide HF).2)⟩
set_option maxRecDepth 100000 in
set_option maxHeartbeats 4000000 in
theorem qbridge_c {g : Nat → Bs} (hg : ∀ i, (g i).length = 32) (B : Nat) : ∀ (n f m : Nat) (known : Bool), 1 ≤ m → m ≤ n → n ≤ 101 → ∀ (w : World) (s : Option Addr) (c : Nat), B ≤ w.heap.size → HL B w (.slice s n c) g f n → GivesL w 20 #[.int .i64 (m : Int), .slice s n c, .bool known] (bridgeP Sha.shaOf g f m n known) := by
  intro n
  induction n using Nat.strongRecOn with
  | ind n ih =>
    intro f m known h1m hm hn w s c hB hx
    have n0 : (1 : Int) ≤ (n : Int) := by omega
    have n1 : (n : Int) ≤ 101 := by omega
    have m0 : (1 : Int) ≤ (m : Int) := by omega
    have m1 : (m : Int) ≤ (n : Int) := by omega
    by_cases h1 : m = n
    · subst h1
      have d1 : ((m : Int) == (m : Int)) = true := by simp
      cases known with
      | true =>
        have He : Hid (bridgeP Sha.shaOf g f m m true = []) := by show _ = _; rw [bridge_end]; rfl
        clear ih hx hg hB
        go_enter Tryd.func20, Tryd.ntmps20
        go_wp2
        go_ret
        exact ⟨_, rfl, by rw [unhide He]; exact grl_nil w _, Below.refl _ _⟩
      | false =>
        have He : Hid (bridgeP Sha.shaOf g f m m false = [rootP Sha.shaOf g f m]) := by show _ = _; rw [bridge_end]; rfl
        have Ho := hide (qroot_c hg B m f (by omega) w s c hB hx)
        have Hlen : Hid (rootP Sha.shaOf g f m ≠ []) := fun e => by
          have := len_root (H := Sha.shaOf) (g := g) Sha.length_shaOf m f fun i _ _ => hg i
          rw [e] at this; simp at this
        clear ih hx hg hB
        go_enter Tryd.func20, Tryd.ntmps20
        go_wp2_with fail
        refine (unhide Ho).mono ?_
        rintro e w1 ⟨v1, rfl, hv1, hb1, _⟩
        have HG := hide (grl_one hv1 hb1 (unhide Hlen))
        obtain ⟨s1, n1, c1, rfl⟩ := hv1.forms
        clear hv1 hb1
        go_wp2
        go_ret
        exact ⟨_, rfl, by rw [unhide He]; exact (unhide HG).1, (unhide HG).2⟩
    · have hn2 : 2 ≤ n := by omega
      have d1 : ((m : Int) == (n : Int)) = false := by simp; omega
      have hk1 := cut_lt hn2
      have hk0 := cut_pos n
      obtain ⟨_, _, e0, hnc⟩ := hx.form
      simp only [Value.slice.injEq] at e0
      obtain ⟨rfl, _, rfl⟩ := e0
      have Hcu := hide (fun w => qcut_c w n hn2 (by omega))
      have hx1 := hx.front (cutP n) (by omega)
      have hx2 := hx.rest (cutP n) (by omega)
      have hs1 : ∀ w, (Instr.sliceAt 22 (.slice s n c) none (some (.int .i64 (cutP n : Int))) none).run Tryd.prog w = .ok (.slice s (cutP n) c) w := slice_frontbb _ _ _ _ (by omega)
      have hs2 : ∀ w, (Instr.sliceAt 22 (.slice s n c) (some (.int .i64 (cutP n : Int))) none none).run Tryd.prog w = .ok (.slice (cutAt s c (cutP n)) (n - cutP n) (c - cutP n)) w := slice_restbb _ _ _ _ (by omega)
      have hdr : Below w.heap.size w w.drew := (Below.refl _ _).drew
      have HBd : Hid (B ≤ w.drew.heap.size) := hB
      by_cases hmk : m ≤ cutP n
      · have Hi1 := hide (ih (cutP n) hk1 f m known h1m hmk (by omega))
        have Hi2 := hide (qroot_c hg B (n - cutP n) (f + cutP n) (by omega))
        have He := hide (bridge_left Sha.shaOf g f known hn2 hmk)
        have Hfew : Hid ((bridgeP Sha.shaOf g f m (cutP n) known).length + 1 ≤ 1073741824) := by show _ ≤ _; have := bridge_few (g := g) (f := f) (m := m) (n := cutP n) (known := known) (by omega); omega
        obtain ⟨K, hK⟩ : ∃ K, cutP n = K := ⟨_, rfl⟩
        rw [hK] at hk1 hk0 Hi1 Hi2 He Hcu hx1 hx2 hs1 hs2 hmk Hfew
        obtain ⟨n', hn'⟩ : ∃ n', n - K = n' := ⟨_, rfl⟩
        obtain ⟨f', hf'⟩ : ∃ f', f + K = f' := ⟨_, rfl⟩
        obtain ⟨s', hs'⟩ : ∃ s', cutAt s c K = s' := ⟨_, rfl⟩
        obtain ⟨c', hc'⟩ : ∃ c', c - K = c' := ⟨_, rfl⟩
        rw [hn', hf'] at Hi2 He
        rw [hn', hf', hs', hc'] at hx2
        rw [hn', hs', hc'] at hs2
        have k0 : (1 : Int) ≤ (K : Int) := by omega
        have k1 : (K : Int) < (n : Int) := by omega
        have dm : decide ((m : Int) ≤ (K : Int)) = true := by simp; omega
        have dmn : decide (m ≤ K) = true := by simp; omega
        have HX1 := hide (hx1.below hdr)
        have HX2 := hide (hx2.below hdr)
        have Hdr := hide hdr
        clear hK hn' hf' hs' hc' ih hx hx1 hx2 hg hn2 hdr hB hnc hn hmk
        go_enter Tryd.func20, Tryd.ntmps20
        go_wp2_with fail
        refine (unhide Hcu w).mono ?_
        rintro e w' ⟨rfl, hw'⟩
        subst hw'
        go_wp2
        go_region_held3 (fun _ => True) (trivial)
          ((first
            | (go_at_call 20; refine (unhide Hi1 w'.drew s c (unhide HBd) (unhide HX1)).mono ?_; rintro e w1 ⟨v1, rfl, hG1, hb1⟩; obtain ⟨s1, c1, rfl⟩ := hG1.form; have HG1 := hide hG1; have HB1 := hide hb1; clear hG1 hb1)
            | (go_at_call 15; refine (unhide Hi2 w1 s' c' (by have := unhide HBd; have := (unhide HB1).size; omega) ((unhide HX2).below (unhide HB1))).mono ?_; rintro e w2 ⟨v2, rfl, hv2, hb2, hq2⟩; have HL := hide (grl_lit (unhide HG1) (unhide HB1) hv2 hb2 (fun k hk => by have := hq2 k hk; have := unhide HBd; omega)); obtain ⟨s2, n2, c2, rfl⟩ := hv2.forms; clear hv2 hb2 hq2)
            | (refine step_append_grl rfl _ _ rfl w'.drew.heap.size _ _ _ _ _ (by simp [Act.eval]) (unhide HL).1 (by simp [Act.eval]) (unhide HL).2.1 (unhide HL).2.2.1 (unhide HL).2.2.2.1 (unhide HL).2.2.2.2.1 (unhide Hfew) ?_; intro v4 w4 hG4 hg4 _; have HF : Hid (GrL w4 w'.drew.heap.size v4 (bridgeP Sha.shaOf g f m n known) ∧ Below w'.drew.heap.size w'.drew w4) := (by show _ ∧ _; rw [unhide He]; exact ⟨hG4, grl_below (unhide HL).1 (unhide HL).2.2.2.2.2 hg4⟩); clear hG4 hg4)))
        go_wp2
        go_ret
        exact ⟨_, rfl, (unhide HF).1, (unhide Hdr).trans ((unhide HF).2)⟩
      · have Hi1 := hide (ih (n - cutP n) (by omega) (f + cutP n) (m - cutP n) false (by omega) (by omega) (by omega))
        have Hi2 := hide (qroot_c hg B (cutP n) f (by omega))
        have He := hide (bridge_right Sha.shaOf g f known hn2 (show cutP n < m by omega) (by omega))
        have Hfew : Hid ((bridgeP Sha.shaOf g (f + cutP n) (m - cutP n) (n - cutP n) false).length + 1 ≤ 1073741824) := by show _ ≤ _; have := bridge_few (g := g) (f := f + cutP n) (m := m - cutP n) (n := n - cutP n) (known := false) (by omega); omega
        obtain ⟨K, hK⟩ : ∃ K, cutP n = K := ⟨_, rfl⟩
        rw [hK] at hk1 hk0 Hi1 Hi2 He Hcu hx1 hx2 hs1 hs2 hmk Hfew
        obtain ⟨n', hn'⟩ : ∃ n', n - K = n' := ⟨_, rfl⟩
        obtain ⟨f', hf'⟩ : ∃ f', f + K = f' := ⟨_, rfl⟩
        obtain ⟨m', hm'⟩ : ∃ m', m - K = m' := ⟨_, rfl⟩
        obtain ⟨s', hs'⟩ : ∃ s', cutAt s c K = s' := ⟨_, rfl⟩
        obtain ⟨c', hc'⟩ : ∃ c', c - K = c' := ⟨_, rfl⟩
        rw [hn', hf', hm'] at Hi1 He Hfew
        rw [hn', hf', hs', hc'] at hx2
        rw [hn', hs', hc'] at hs2
        have k0 : (1 : Int) ≤ (K : Int) := by omega
        have k1 : (K : Int) < (n : Int) := by omega
        have e4 : IntKind.i64.wrap ((m : Int) - (K : Int)) = (m' : Int) := by rw [IntWalk.i64_in _ (by omega)]; omega
        have dm : decide ((m : Int) ≤ (K : Int)) = false := by simp; omega
        have dmn : decide (m ≤ K) = false := by simp; omega
        have HX1 := hide (hx1.below hdr)
        have HX2 := hide (hx2.below hdr)
        have Hdr := hide hdr
        clear hm' hK hn' hf' hs' hc' ih hx hx1 hx2 hg hn2 hdr hB hnc hn hmk
        go_enter Tryd.func20, Tryd.ntmps20
        go_wp2_with fail
        refine (unhide Hcu w).mono ?_
        rintro e w' ⟨rfl, hw'⟩
        subst hw'
        go_wp2
        go_region_held3 (fun _ => True) (trivial)
          ((first
            | (go_at_call 20; refine (unhide Hi1 w'.drew s' c' (unhide HBd) (unhide HX2)).mono ?_; rintro e w1 ⟨v1, rfl, hG1, hb1⟩; obtain ⟨s1, c1, rfl⟩ := hG1.form; have HG1 := hide hG1; have HB1 := hide hb1; clear hG1 hb1)
            | (go_at_call 15; refine (unhide Hi2 w1 s c (by have := unhide HBd; have := (unhide HB1).size; omega) ((unhide HX1).below (unhide HB1))).mono ?_; rintro e w2 ⟨v2, rfl, hv2, hb2, hq2⟩; have HL := hide (grl_lit (unhide HG1) (unhide HB1) hv2 hb2 (fun k hk => by have := hq2 k hk; have := unhide HBd; omega)); obtain ⟨s2, n2, c2, rfl⟩ := hv2.forms; clear hv2 hb2 hq2)
            | (refine step_append_grl rfl _ _ rfl w'.drew.heap.size _ _ _ _ _ (by simp [Act.eval]) (unhide HL).1 (by simp [Act.eval]) (unhide HL).2.1 (unhide HL).2.2.1 (unhide HL).2.2.2.1 (unhide HL).2.2.2.2.1 (unhide Hfew) ?_; intro v4 w4 hG4 hg4 _; have HF : Hid (GrL w4 w'.drew.heap.size v4 (bridgeP Sha.shaOf g f m n known) ∧ Below w'.drew.heap.size w'.drew w4) := (by show _ ∧ _; rw [unhide He]; exact ⟨hG4, grl_below (unhide HL).1 (unhide HL).2.2.2.2.2 hg4⟩); clear hG4 hg4)))
        go_wp2
        go_ret
        exact ⟨_, rfl, (unhide HF).1, (unhide Hdr).trans ((unhide HF).2)⟩
end Go.Proofs.YtmhlafhbdpeglaaDoor
namespace Go.Proofs.YtmhlafhbdpeglaaDoor
open Go.RowKit
set_option maxRecDepth 100000 in
set_option maxHeartbeats 8000000 in
/-- MERKLEPATHS. -/
theorem paths_true (w : World) (hr : Sha.Ready w) (x : Value) (ls : List Bs) (hx : LL w x ls) (hsm : ∀ b ∈ ls, b.length ≤ 1099511627776000) (m n : Int) (hm : -9223372036854775808 ≤ m ∧ m ≤ 9223372036854775807) (hn : -9223372036854775808 ≤ n ∧ n ≤ 9223372036854775807) : Says w 4 #[x, .int .i64 m, .int .i64 n] true := by
  obtain ⟨sp, cp, rfl⟩ := hx.form
  obtain ⟨n1, n2⟩ := hn
  obtain ⟨m1, m2⟩ := hm
  have Hm := hide (And.intro m1 m2)
  have Hn := hide (And.intro n1 n2)
  have HX := hide hx
  have HR := hide hr
  have Hsm := hide hsm
  clear hx hr hsm
  go_enter Tryd.func4, Tryd.ntmps4
  go_wp2_with fail
  refine (anchor_c w (unhide HR)).mono ?_
  rintro e w1 ⟨rfl, hb1⟩
  have HB1 := hide hb1
  have HX1 := hide ((unhide HX).below hb1)
  have HR1 := hide (ready_on (unhide HR) hb1)
  clear hb1
  go_wp2_with fail
  refine (few_c w1 _ ls (unhide HX1) (unhide Hsm)).mono ?_
  rintro e w1' ⟨rfl, hw1⟩
  subst hw1
  by_cases hf : fewB ls = true
  case neg =>
    have hff : fewB ls = false := by simpa using hf
    rw [hff]
    clear hf hff
    go_wp2
    go_ret
    exact ⟨rfl, unhide HB1⟩
  case pos =>
  rw [hf]
  have hN := (few_small hf).1
  go_wp2_with fail
  refine (tree_t w1' (unhide HR1) _ ls (unhide HX1) hf).mono ?_
  rintro e w2 ⟨t, ls', lc, S, rfl, hT, _, hb2⟩
  have HT2 := hide hT
  have HB2 := hide ((unhide HB1).trans (hb2.mono (unhide HB1).size))
  obtain ⟨N, hNN⟩ : ∃ N, ls.length = N := ⟨_, rfl⟩
  have HNN := hide hNN
  rw [hNN] at hN ⊢
  have n0 : (0 : Int) ≤ (N : Int) := by omega
  have n100 : (N : Int) ≤ 100 := by omega
  have dnn : ((N : Int) != (N : Int)) = false := by simp
  clear hT hb2 hf hNN
  by_cases hin : 0 ≤ m ∧ m < n ∧ n ≤ (N : Int)
  · obtain ⟨a, rfl⟩ : ∃ a : Nat, m = (a : Int) := ⟨m.toNat, by omega⟩
    obtain ⟨b, rfl⟩ : ∃ b : Nat, n = (b : Int) := ⟨n.toNat, by omega⟩
    have Hp := hide (tpath_yes (S := S) (t := t) (len_leavesH ls) (by have := unhide HNN; omega) w2 (unhide HT2).ready (unhide HT2).tree a b (by omega) (by have := unhide HNN; omega))
    have d1 : decide ((0 : Int) ≤ (a : Int)) = true := by simp
    have d2 : decide ((a : Int) < (b : Int)) = true := by simp; omega
    have d2n : decide (a < b) = true := by simp; omega
    have d3 : decide ((b : Int) ≤ (N : Int)) = true := by simp; omega
    have d3n : decide (b ≤ N) = true := by simp; omega
    have hab : a < b := by omega
    have Hfew : Hid ((pathP Sha.shaOf (leavesH ls) 0 a b).length ≤ 7) := path_few (by omega)
    have H32 : Hid (All32 (pathP Sha.shaOf (leavesH ls) 0 a b)) := path_32 Sha.length_shaOf b 0 a fun i _ _ => len_leavesH ls i
    go_wp2_with fail
    refine (unhide Hp).mono ?_
    rintro e w3 ⟨v3, rfl, hG3, hb3⟩
    obtain ⟨s3, c3, rfl⟩ := hG3.form
    have HT3 := hide ((unhide HT2).on hb3)
    have HB3 := hide ((unhide HB2).trans (hb3.mono (unhide HB2).size))
    have HL3 := hide hG3.lists
    have hcut : (∀ w, (Instr.sliceAt 22 (.slice ls' N lc) none (some (.int .i64 (b : Int))) none).run Tryd.prog w = .ok (.slice ls' b lc) w) ∧ HL w2.heap.size w3 (.slice ls' b lc) (leavesH ls) 0 b := by
      have h := (unhide HT3).hl
      rw [unhide HNN] at h
      exact h.cut b (by omega)
    have hs1 := hcut.1
    have Hq := hide (qpath_c (len_leavesH ls) w2.heap.size b 0 a hab (by omega) w3 ls' lc (unhide HT3).size hcut.2)
    obtain ⟨P, hP⟩ : ∃ P, pathP Sha.shaOf (leavesH ls) 0 a b = P := ⟨_, rfl⟩
    rw [hP] at Hq HL3 Hfew H32 ⊢
    obtain ⟨pn, hpn⟩ : ∃ pn, P.length = pn := ⟨_, rfl⟩
    rw [hpn] at HL3 Hfew ⊢
    have Hpn := hide hpn
    clear hG3 hb3 hcut Hp hP hpn
    go_wp2_with (first
      | (refine (unhide Hq).mono ?_
         rintro e w5 ⟨v5, rfl, hG5, hb5⟩
         obtain ⟨s5, c5, hf5⟩ := hG5.form
         rw [unhide Hpn] at hf5
         subst hf5
         have HL5 := hide hG5.lists
         have HL35 := hide ((unhide HL3).below hb5)
         have HB5 := hide ((unhide HB3).trans (hb5.mono (unhide HB3).size))
         clear hG5 hb5)
      | (refine (lsame_c _ _ _ P P (unhide HL35) (unhide HL5) (fun b hb => by have := unhide H32 b hb; omega) (by have := unhide Hfew; have := unhide Hpn; omega) (by have := unhide Hfew; have := unhide Hpn; omega)).mono ?_
         rintro e w6 ⟨rfl, hb6⟩
         rw [decide_eq_true rfl]
         have HB6 := hide ((unhide HB5).trans (hb6.mono (unhide HB5).size))
         clear hb6))
    go_ret
    exact ⟨rfl, unhide HB6⟩
  · have Hno := hide (tpath_no (S := S) (t := t) (g := leavesH ls) (N := ls.length) (by have := unhide HNN; omega) w2 (unhide HT2).tree m n (unhide Hn) (unhide Hm) (by have := unhide HNN; omega))
    by_cases h0 : m < 0
    · have d1 : decide ((0 : Int) ≤ m) = false := by simp; omega
      go_wp2_with ((refine (unhide Hno).mono ?_
                    rintro e w4 ⟨rfl, hw4⟩
                    subst hw4
                    clear Hno))
      go_ret
      exact ⟨rfl, unhide HB2⟩
    · have d1 : decide ((0 : Int) ≤ m) = true := by simp; omega
      by_cases h1 : n ≤ m
      · have d2 : decide (m < n) = false := by simp; omega
        go_wp2_with ((refine (unhide Hno).mono ?_
                      rintro e w4 ⟨rfl, hw4⟩
                      subst hw4
                      clear Hno))
        go_ret
        exact ⟨rfl, unhide HB2⟩
      · have d2 : decide (m < n) = true := by simp; omega
        have d3 : decide (n ≤ (N : Int)) = false := by simp; omega
        go_wp2_with ((refine (unhide Hno).mono ?_
                      rintro e w4 ⟨rfl, hw4⟩
                      subst hw4
                      clear Hno))
        go_ret
        exact ⟨rfl, unhide HB2⟩
end Go.Proofs.YtmhlafhbdpeglaaDoor
namespace Go.Proofs.YtmhlafhbdpeglaaDoor
open Go.RowKit
set_option maxRecDepth 100000 in
set_option maxHeartbeats 8000000 in
/-- MERKLEBRIDGES. -/
theorem bridges_true (w : World) (hr : Sha.Ready w) (x : Value) (ls : List Bs) (hx : LL w x ls) (hsm : ∀ b ∈ ls, b.length ≤ 1099511627776000) (m n : Int) (hm : -9223372036854775808 ≤ m ∧ m ≤ 9223372036854775807) (hn : -9223372036854775808 ≤ n ∧ n ≤ 9223372036854775807) : Says w 5 #[x, .int .i64 m, .int .i64 n] true := by
  obtain ⟨sp, cp, rfl⟩ := hx.form
  obtain ⟨n1, n2⟩ := hn
  obtain ⟨m1, m2⟩ := hm
  have Hm := hide (And.intro m1 m2)
  have Hn := hide (And.intro n1 n2)
  have HX := hide hx
  have HR := hide hr
  have Hsm := hide hsm
  clear hx hr hsm
  go_enter Tryd.func5, Tryd.ntmps5
  go_wp2_with fail
  refine (anchor_c w (unhide HR)).mono ?_
  rintro e w1 ⟨rfl, hb1⟩
  have HB1 := hide hb1
  have HX1 := hide ((unhide HX).below hb1)
  have HR1 := hide (ready_on (unhide HR) hb1)
  clear hb1
  go_wp2_with fail
  refine (few_c w1 _ ls (unhide HX1) (unhide Hsm)).mono ?_
  rintro e w1' ⟨rfl, hw1⟩
  subst hw1
  by_cases hf : fewB ls = true
  case neg =>
    have hff : fewB ls = false := by simpa using hf
    rw [hff]
    clear hf hff
    go_wp2
    go_ret
    exact ⟨rfl, unhide HB1⟩
  case pos =>
  rw [hf]
  have hN := (few_small hf).1
  go_wp2_with fail
  refine (tree_t w1' (unhide HR1) _ ls (unhide HX1) hf).mono ?_
  rintro e w2 ⟨t, ls', lc, S, rfl, hT, _, hb2⟩
  have HT2 := hide hT
  have HB2 := hide ((unhide HB1).trans (hb2.mono (unhide HB1).size))
  obtain ⟨N, hNN⟩ : ∃ N, ls.length = N := ⟨_, rfl⟩
  have HNN := hide hNN
  rw [hNN] at hN ⊢
  have n0 : (0 : Int) ≤ (N : Int) := by omega
  have n100 : (N : Int) ≤ 100 := by omega
  have dnn : ((N : Int) != (N : Int)) = false := by simp
  clear hT hb2 hf hNN
  by_cases hin : 0 ≤ m ∧ m ≤ n ∧ n ≤ (N : Int)
  · obtain ⟨a, rfl⟩ : ∃ a : Nat, m = (a : Int) := ⟨m.toNat, by omega⟩
    obtain ⟨b, rfl⟩ : ∃ b : Nat, n = (b : Int) := ⟨n.toNat, by omega⟩
    have hp := tbridge_yes (S := S) (t := t) (len_leavesH ls) (by have := unhide HNN; omega) w2 (unhide HT2).ready (unhide HT2).tree a b (by omega) (by have := unhide HNN; omega)
    have d1 : decide ((0 : Int) ≤ (a : Int)) = true := by simp
    have d2 : decide ((a : Int) ≤ (b : Int)) = true := by simp; omega
    have d2n : decide (a ≤ b) = true := by simp; omega
    have d3 : decide ((b : Int) ≤ (N : Int)) = true := by simp; omega
    have d3n : decide (b ≤ N) = true := by simp; omega
    have hab : a ≤ b := by omega
    by_cases he : a = 0 ∨ a = b
    · rw [if_pos he] at hp
      have Hp := hide hp
      clear hp
      rcases he with rfl | rfl
      · go_wp2_with ((refine (unhide Hp).mono ?_
                      rintro e w3 ⟨v3, rfl, hG3, hb3⟩
                      obtain ⟨s3, c3, rfl⟩ : ∃ s c, v3 = .slice s 0 c := hG3.form
                      have HB3 := hide ((unhide HB2).trans (hb3.mono (unhide HB2).size))
                      clear hG3 hb3))
        go_ret
        exact ⟨rfl, unhide HB3⟩
      · have d4 : ((a : Int) == (a : Int)) = true := by simp
        by_cases hz : a = 0
        · subst hz
          go_wp2_with ((refine (unhide Hp).mono ?_
                        rintro e w3 ⟨v3, rfl, hG3, hb3⟩
                        obtain ⟨s3, c3, rfl⟩ : ∃ s c, v3 = .slice s 0 c := hG3.form
                        have HB3 := hide ((unhide HB2).trans (hb3.mono (unhide HB2).size))
                        clear hG3 hb3))
          go_ret
          exact ⟨rfl, unhide HB3⟩
        · have d5 : ((a : Int) == 0) = false := by simp; omega
          go_wp2_with ((refine (unhide Hp).mono ?_
                        rintro e w3 ⟨v3, rfl, hG3, hb3⟩
                        obtain ⟨s3, c3, rfl⟩ : ∃ s c, v3 = .slice s 0 c := hG3.form
                        have HB3 := hide ((unhide HB2).trans (hb3.mono (unhide HB2).size))
                        clear hG3 hb3))
          go_ret
          exact ⟨rfl, unhide HB3⟩
    · rw [if_neg he] at hp
      have Hp := hide hp
      have ha1 : 1 ≤ a := by omega
      have d4 : ((a : Int) == (b : Int)) = false := by simp; omega
      have d5 : ((a : Int) == 0) = false := by simp; omega
      have Hfew : Hid ((bridgeP Sha.shaOf (leavesH ls) 0 a b true).length ≤ 8) := bridge_few (by omega)
      have H32 : Hid (All32 (bridgeP Sha.shaOf (leavesH ls) 0 a b true)) := bridge_32 Sha.length_shaOf b 0 a true hab fun i _ _ => len_leavesH ls i
      clear hp
      go_wp2_with fail
      refine (unhide Hp).mono ?_
      rintro e w3 ⟨v3, rfl, hG3, hb3⟩
      obtain ⟨s3, c3, rfl⟩ := hG3.form
      have HT3 := hide ((unhide HT2).on hb3)
      have HB3 := hide ((unhide HB2).trans (hb3.mono (unhide HB2).size))
      have HL3 := hide hG3.lists
      have hcut : (∀ w, (Instr.sliceAt 22 (.slice ls' N lc) none (some (.int .i64 (b : Int))) none).run Tryd.prog w = .ok (.slice ls' b lc) w) ∧ HL w2.heap.size w3 (.slice ls' b lc) (leavesH ls) 0 b := by
        have h := (unhide HT3).hl
        rw [unhide HNN] at h
        exact h.cut b (by omega)
      have hs1 := hcut.1
      have Hq := hide (qbridge_c (len_leavesH ls) w2.heap.size b 0 a true ha1 hab (by omega) w3 ls' lc (unhide HT3).size hcut.2)
      obtain ⟨P, hP⟩ : ∃ P, bridgeP Sha.shaOf (leavesH ls) 0 a b true = P := ⟨_, rfl⟩
      rw [hP] at Hq HL3 Hfew H32 ⊢
      obtain ⟨pn, hpn⟩ : ∃ pn, P.length = pn := ⟨_, rfl⟩
      rw [hpn] at HL3 Hfew ⊢
      have Hpn := hide hpn
      clear hG3 hb3 hcut Hp hP hpn
      go_wp2_with (first
        | (refine (unhide Hq).mono ?_
           rintro e w5 ⟨v5, rfl, hG5, hb5⟩
           obtain ⟨s5, c5, hf5⟩ := hG5.form
           rw [unhide Hpn] at hf5
           subst hf5
           have HL5 := hide hG5.lists
           have HL35 := hide ((unhide HL3).below hb5)
           have HB5 := hide ((unhide HB3).trans (hb5.mono (unhide HB3).size))
           clear hG5 hb5)
        | (refine (lsame_c _ _ _ P P (unhide HL35) (unhide HL5) (fun b hb => by have := unhide H32 b hb; omega) (by have := unhide Hfew; have := unhide Hpn; omega) (by have := unhide Hfew; have := unhide Hpn; omega)).mono ?_
           rintro e w6 ⟨rfl, hb6⟩
           rw [decide_eq_true rfl]
           have HB6 := hide ((unhide HB5).trans (hb6.mono (unhide HB5).size))
           clear hb6))
      go_ret
      exact ⟨rfl, unhide HB6⟩
  · have Hno := hide (tbridge_no (S := S) (t := t) (g := leavesH ls) (N := ls.length) (by have := unhide HNN; omega) w2 (unhide HT2).tree m n (unhide Hn) (unhide Hm) (by have := unhide HNN; omega))
    by_cases h0 : m < 0
    · have d1 : decide ((0 : Int) ≤ m) = false := by simp; omega
      go_wp2_with ((refine (unhide Hno).mono ?_
                    rintro e w4 ⟨rfl, hw4⟩
                    subst hw4
                    clear Hno))
      go_ret
      exact ⟨rfl, unhide HB2⟩
    · have d1 : decide ((0 : Int) ≤ m) = true := by simp; omega
      by_cases h1 : n < m
      · have d2 : decide (m ≤ n) = false := by simp; omega
        go_wp2_with ((refine (unhide Hno).mono ?_
                      rintro e w4 ⟨rfl, hw4⟩
                      subst hw4
                      clear Hno))
        go_ret
        exact ⟨rfl, unhide HB2⟩
      · have d2 : decide (m ≤ n) = true := by simp; omega
        have d3 : decide (n ≤ (N : Int)) = false := by simp; omega
        go_wp2_with ((refine (unhide Hno).mono ?_
                      rintro e w4 ⟨rfl, hw4⟩
                      subst hw4
                      clear Hno))
        go_ret
        exact ⟨rfl, unhide HB2⟩
end Go.Proofs.YtmhlafhbdpeglaaDoor
