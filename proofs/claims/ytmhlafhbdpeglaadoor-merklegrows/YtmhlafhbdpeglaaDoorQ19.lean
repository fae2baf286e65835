/-
  The walks of the reference's Path and Bridge.
  append of bytes onto an empty row, wherever that lies; the ends of a drawn region brought to one.
  What MerkleIncludes and MerkleGrows share: a byte is spoilt, a place of a list is written over, what the verifiers are handed.
-/
import Derived.Test.YtmhlafhbdpeglaaDoorQ15
import Derived.Test.YtmhlafhbdpeglaaDoorQ14
import Derived.Test.YtmhlafhbdpeglaaDoorQ8
import Derived.Test.YtmhlafhbdpeglaaDoorQ1
import Derived.Deep.RegionHeld3
import Derived.Deep.RegionLaw
import Derived.Deep.Cut
import Derived.Test.YtmhlafhbdpeglaaDoorQ18
namespace Go.Proofs.YtmhlafhbdpeglaaDoor
open Go.RowKit
set_option maxRecDepth 100000 in
set_option maxHeartbeats 4000000 in
theorem qpath_c {g : Nat → Bs} (hg : ∀ i, (g i).length = 32) (B : Nat) : ∀ (n f m : Nat), m < n → n ≤ 101 → ∀ (w : World) (s : Option Addr) (c : Nat), B ≤ w.heap.size → HL B w (.slice s n c) g f n → GivesL w 18 #[.int .i64 (m : Int), .slice s n c] (pathP Sha.shaOf g f m n) := by
  intro n
  induction n using Nat.strongRecOn with
  | ind n ih =>
    intro f m hm hn w s c hB hx
    have n0 : (1 : Int) ≤ (n : Int) := by omega
    have n1 : (n : Int) ≤ 101 := by omega
    have m0 : (0 : Int) ≤ (m : Int) := by omega
    have m1 : (m : Int) < (n : Int) := by omega
    by_cases h1 : n = 1
    · subst h1
      have He := hide (path_one Sha.shaOf g f m)
      clear ih hx hg hB
      go_enter Tryd.func18, Tryd.ntmps18
      go_wp2
      go_ret
      exact ⟨_, rfl, by rw [unhide He]; exact grl_nil w _, Below.refl _ _⟩
    · have hn2 : 2 ≤ n := by omega
      have d1 : ((n : Int) == 1) = false := by simp; omega
      have hk1 := cut_lt hn2
      have hk0 := cut_pos n
      obtain ⟨_, _, e0, hnc⟩ := hx.form
      simp only [Value.slice.injEq] at e0
      obtain ⟨rfl, _, rfl⟩ := e0
      have Hcu := hide (fun w => qcut_c w n hn2 (by omega))
      have hx1 := hx.front (cutP n) (by omega)
      have hx2 := hx.rest (cutP n) (by omega)
      have hs1 : ∀ w, (Instr.sliceAt 22 (.slice s n c) none (some (.int .i64 (cutP n : Int))) none).run Tryd.prog w = .ok (.slice s (cutP n) c) w := slice_frontbb _ _ _ _ (by omega)
      have hs2 : ∀ w, (Instr.sliceAt 22 (.slice s n c) (some (.int .i64 (cutP n : Int))) none none).run Tryd.prog w = .ok (.slice (cutAt s c (cutP n)) (n - cutP n) (c - cutP n)) w := slice_restbb _ _ _ _ (by omega)
      have hdr : Below w.heap.size w w.drew := (Below.refl _ _).drew
      have HBd : Hid (B ≤ w.drew.heap.size) := hB
      by_cases hmk : m < cutP n
      · have Hi1 := hide (ih (cutP n) hk1 f m hmk (by omega))
        have Hi2 := hide (qroot_c hg B (n - cutP n) (f + cutP n) (by omega))
        have He := hide (path_left Sha.shaOf g f hn2 hmk)
        have Hfew : Hid ((pathP Sha.shaOf g f m (cutP n)).length + 1 ≤ 1073741824) := by show _ ≤ _; have := path_few (g := g) (f := f) (m := m) (n := cutP n) (by omega); omega
        obtain ⟨K, hK⟩ : ∃ K, cutP n = K := ⟨_, rfl⟩
        rw [hK] at hk1 hk0 Hi1 Hi2 He Hcu hx1 hx2 hs1 hs2 hmk Hfew
        obtain ⟨n', hn'⟩ : ∃ n', n - K = n' := ⟨_, rfl⟩
        obtain ⟨f', hf'⟩ : ∃ f', f + K = f' := ⟨_, rfl⟩
        obtain ⟨s', hs'⟩ : ∃ s', cutAt s c K = s' := ⟨_, rfl⟩
        obtain ⟨c', hc'⟩ : ∃ c', c - K = c' := ⟨_, rfl⟩
        rw [hn', hf'] at Hi2 He
        rw [hn', hf', hs', hc'] at hx2
        rw [hn', hs', hc'] at hs2
        have k0 : (1 : Int) ≤ (K : Int) := by omega
        have k1 : (K : Int) < (n : Int) := by omega
        have dm : decide ((m : Int) < (K : Int)) = true := by simp; omega
        have dmn : decide (m < K) = true := by simp; omega
        have HX1 := hide (hx1.below hdr)
        have HX2 := hide (hx2.below hdr)
        have Hdr := hide hdr
        clear hK hn' hf' hs' hc' ih hx hx1 hx2 hg hn2 hdr hB hnc hn hmk
        go_enter Tryd.func18, Tryd.ntmps18
        go_wp2_with fail
        refine (unhide Hcu w).mono ?_
        rintro e w' ⟨rfl, hw'⟩
        subst hw'
        go_wp2
        go_region_held3 (fun _ => True) (trivial)
          ((first
            | (go_at_call 18; refine (unhide Hi1 w'.drew s c (unhide HBd) (unhide HX1)).mono ?_; rintro e w1 ⟨v1, rfl, hG1, hb1⟩; obtain ⟨s1, c1, rfl⟩ := hG1.form; have HG1 := hide hG1; have HB1 := hide hb1; clear hG1 hb1)
            | (go_at_call 15; refine (unhide Hi2 w1 s' c' (by have := unhide HBd; have := (unhide HB1).size; omega) ((unhide HX2).below (unhide HB1))).mono ?_; rintro e w2 ⟨v2, rfl, hv2, hb2, hq2⟩; have HL := hide (grl_lit (unhide HG1) (unhide HB1) hv2 hb2 (fun k hk => by have := hq2 k hk; have := unhide HBd; omega)); obtain ⟨s2, n2, c2, rfl⟩ := hv2.forms; clear hv2 hb2 hq2)
            | (refine step_append_grl rfl _ _ rfl w'.drew.heap.size _ _ _ _ _ (by simp [Act.eval]) (unhide HL).1 (by simp [Act.eval]) (unhide HL).2.1 (unhide HL).2.2.1 (unhide HL).2.2.2.1 (unhide HL).2.2.2.2.1 (unhide Hfew) ?_; intro v4 w4 hG4 hg4 _; have HF : Hid (GrL w4 w'.drew.heap.size v4 (pathP Sha.shaOf g f m n) ∧ Below w'.drew.heap.size w'.drew w4) := (by show _ ∧ _; rw [unhide He]; exact ⟨hG4, grl_below (unhide HL).1 (unhide HL).2.2.2.2.2 hg4⟩); clear hG4 hg4)))
        go_wp2
        go_ret
        exact ⟨_, rfl, (unhide HF).1, (unhide Hdr).trans ((unhide HF).2)⟩
      · have Hi1 := hide (ih (n - cutP n) (by omega) (f + cutP n) (m - cutP n) (by omega) (by omega))
        have Hi2 := hide (qroot_c hg B (cutP n) f (by omega))
        have He := hide (path_right Sha.shaOf g f hn2 (show cutP n ≤ m by omega))
        have Hfew : Hid ((pathP Sha.shaOf g (f + cutP n) (m - cutP n) (n - cutP n)).length + 1 ≤ 1073741824) := by show _ ≤ _; have := path_few (g := g) (f := f + cutP n) (m := m - cutP n) (n := n - cutP n) (by omega); omega
        obtain ⟨K, hK⟩ : ∃ K, cutP n = K := ⟨_, rfl⟩
        rw [hK] at hk1 hk0 Hi1 Hi2 He Hcu hx1 hx2 hs1 hs2 hmk Hfew
        obtain ⟨n', hn'⟩ : ∃ n', n - K = n' := ⟨_, rfl⟩
        obtain ⟨f', hf'⟩ : ∃ f', f + K = f' := ⟨_, rfl⟩
        obtain ⟨m', hm'⟩ : ∃ m', m - K = m' := ⟨_, rfl⟩
        obtain ⟨s', hs'⟩ : ∃ s', cutAt s c K = s' := ⟨_, rfl⟩
        obtain ⟨c', hc'⟩ : ∃ c', c - K = c' := ⟨_, rfl⟩
        rw [hn', hf', hm'] at Hi1 He Hfew
        rw [hn', hf', hs', hc'] at hx2
        rw [hn', hs', hc'] at hs2
        have k0 : (1 : Int) ≤ (K : Int) := by omega
        have k1 : (K : Int) < (n : Int) := by omega
        have e4 : IntKind.i64.wrap ((m : Int) - (K : Int)) = (m' : Int) := by rw [IntWalk.i64_in _ (by omega)]; omega
        have dm : decide ((m : Int) < (K : Int)) = false := by simp; omega
        have dmn : decide (m < K) = false := by simp; omega
        have HX1 := hide (hx1.below hdr)
        have HX2 := hide (hx2.below hdr)
        have Hdr := hide hdr
        clear hm' hK hn' hf' hs' hc' ih hx hx1 hx2 hg hn2 hdr hB hnc hn hmk
        go_enter Tryd.func18, Tryd.ntmps18
        go_wp2_with fail
        refine (unhide Hcu w).mono ?_
        rintro e w' ⟨rfl, hw'⟩
        subst hw'
        go_wp2
        go_region_held3 (fun _ => True) (trivial)
          ((first
            | (go_at_call 18; refine (unhide Hi1 w'.drew s' c' (unhide HBd) (unhide HX2)).mono ?_; rintro e w1 ⟨v1, rfl, hG1, hb1⟩; obtain ⟨s1, c1, rfl⟩ := hG1.form; have HG1 := hide hG1; have HB1 := hide hb1; clear hG1 hb1)
            | (go_at_call 15; refine (unhide Hi2 w1 s c (by have := unhide HBd; have := (unhide HB1).size; omega) ((unhide HX1).below (unhide HB1))).mono ?_; rintro e w2 ⟨v2, rfl, hv2, hb2, hq2⟩; have HL := hide (grl_lit (unhide HG1) (unhide HB1) hv2 hb2 (fun k hk => by have := hq2 k hk; have := unhide HBd; omega)); obtain ⟨s2, n2, c2, rfl⟩ := hv2.forms; clear hv2 hb2 hq2)
            | (refine step_append_grl rfl _ _ rfl w'.drew.heap.size _ _ _ _ _ (by simp [Act.eval]) (unhide HL).1 (by simp [Act.eval]) (unhide HL).2.1 (unhide HL).2.2.1 (unhide HL).2.2.2.1 (unhide HL).2.2.2.2.1 (unhide Hfew) ?_; intro v4 w4 hG4 hg4 _; have HF : Hid (GrL w4 w'.drew.heap.size v4 (pathP Sha.shaOf g f m n) ∧ Below w'.drew.heap.size w'.drew w4) := (by show _ ∧ _; rw [unhide He]; exact ⟨hG4, grl_below (unhide HL).1 (unhide HL).2.2.2.2.2 hg4⟩); clear hG4 hg4)))
        go_wp2
        go_ret
        exact ⟨_, rfl, (unhide HF).1, (unhide Hdr).trans ((unhide HF).2)⟩
set_option maxRecDepth 100000 in
set_option maxHeartbeats 4000000 in
theorem qbridge_c {g : Nat → Bs} (hg : ∀ i, (g i).length = 32) (B : Nat) : ∀ (n f m : Nat) (known : Bool), 1 ≤ m → m ≤ n → n ≤ 101 → ∀ (w : World) (s : Option Addr) (c : Nat), B ≤ w.heap.size → HL B w (.slice s n c) g f n → GivesL w 20 #[.int .i64 (m : Int), .slice s n c, .bool known] (bridgeP Sha.shaOf g f m n known) := by
  intro n
  induction n using Nat.strongRecOn with
  | ind n ih =>
    intro f m known h1m hm hn w s c hB hx
    have n0 : (1 : Int) ≤ (n : Int) := by omega
    have n1 : (n : Int) ≤ 101 := by omega
    have m0 : (1 : Int) ≤ (m : Int) := by omega
    have m1 : (m : Int) ≤ (n : Int) := by omega
    by_cases h1 : m = n
    · subst h1
      have d1 : ((m : Int) == (m : Int)) = true := by simp
      cases known with
      | true =>
        have He : Hid (bridgeP Sha.shaOf g f m m true = []) := by show _ = _; rw [bridge_end]; rfl
        clear ih hx hg hB
        go_enter Tryd.func20, Tryd.ntmps20
        go_wp2
        go_ret
        exact ⟨_, rfl, by rw [unhide He]; exact grl_nil w _, Below.refl _ _⟩
      | false =>
        have He : Hid (bridgeP Sha.shaOf g f m m false = [rootP Sha.shaOf g f m]) := by show _ = _; rw [bridge_end]; rfl
        have Ho := hide (qroot_c hg B m f (by omega) w s c hB hx)
        have Hlen : Hid (rootP Sha.shaOf g f m ≠ []) := fun e => by
          have := len_root (H := Sha.shaOf) (g := g) Sha.length_shaOf m f fun i _ _ => hg i
          rw [e] at this; simp at this
        clear ih hx hg hB
        go_enter Tryd.func20, Tryd.ntmps20
        go_wp2_with fail
        refine (unhide Ho).mono ?_
        rintro e w1 ⟨v1, rfl, hv1, hb1, _⟩
        have HG := hide (grl_one hv1 hb1 (unhide Hlen))
        obtain ⟨s1, n1, c1, rfl⟩ := hv1.forms
        clear hv1 hb1
        go_wp2
        go_ret
        exact ⟨_, rfl, by rw [unhide He]; exact (unhide HG).1, (unhide HG).2⟩
    · have hn2 : 2 ≤ n := by omega
      have d1 : ((m : Int) == (n : Int)) = false := by simp; omega
      have hk1 := cut_lt hn2
      have hk0 := cut_pos n
      obtain ⟨_, _, e0, hnc⟩ := hx.form
      simp only [Value.slice.injEq] at e0
      obtain ⟨rfl, _, rfl⟩ := e0
      have Hcu := hide (fun w => qcut_c w n hn2 (by omega))
      have hx1 := hx.front (cutP n) (by omega)
      have hx2 := hx.rest (cutP n) (by omega)
      have hs1 : ∀ w, (Instr.sliceAt 22 (.slice s n c) none (some (.int .i64 (cutP n : Int))) none).run Tryd.prog w = .ok (.slice s (cutP n) c) w := slice_frontbb _ _ _ _ (by omega)
      have hs2 : ∀ w, (Instr.sliceAt 22 (.slice s n c) (some (.int .i64 (cutP n : Int))) none none).run Tryd.prog w = .ok (.slice (cutAt s c (cutP n)) (n - cutP n) (c - cutP n)) w := slice_restbb _ _ _ _ (by omega)
      have hdr : Below w.heap.size w w.drew := (Below.refl _ _).drew
      have HBd : Hid (B ≤ w.drew.heap.size) := hB
      by_cases hmk : m ≤ cutP n
      · have Hi1 := hide (ih (cutP n) hk1 f m known h1m hmk (by omega))
        have Hi2 := hide (qroot_c hg B (n - cutP n) (f + cutP n) (by omega))
        have He := hide (bridge_left Sha.shaOf g f known hn2 hmk)
        have Hfew : Hid ((bridgeP Sha.shaOf g f m (cutP n) known).length + 1 ≤ 1073741824) := by show _ ≤ _; have := bridge_few (g := g) (f := f) (m := m) (n := cutP n) (known := known) (by omega); omega
        obtain ⟨K, hK⟩ : ∃ K, cutP n = K := ⟨_, rfl⟩
        rw [hK] at hk1 hk0 Hi1 Hi2 He Hcu hx1 hx2 hs1 hs2 hmk Hfew
        obtain ⟨n', hn'⟩ : ∃ n', n - K = n' := ⟨_, rfl⟩
        obtain ⟨f', hf'⟩ : ∃ f', f + K = f' := ⟨_, rfl⟩
        obtain ⟨s', hs'⟩ : ∃ s', cutAt s c K = s' := ⟨_, rfl⟩
        obtain ⟨c', hc'⟩ : ∃ c', c - K = c' := ⟨_, rfl⟩
        rw [hn', hf'] at Hi2 He
        rw [hn', hf', hs', hc'] at hx2
        rw [hn', hs', hc'] at hs2
        have k0 : (1 : Int) ≤ (K : Int) := by omega
        have k1 : (K : Int) < (n : Int) := by omega
        have dm : decide ((m : Int) ≤ (K : Int)) = true := by simp; omega
        have dmn : decide (m ≤ K) = true := by simp; omega
        have HX1 := hide (hx1.below hdr)
        have HX2 := hide (hx2.below hdr)
        have Hdr := hide hdr
        clear hK hn' hf' hs' hc' ih hx hx1 hx2 hg hn2 hdr hB hnc hn hmk
        go_enter Tryd.func20, Tryd.ntmps20
        go_wp2_with fail
        refine (unhide Hcu w).mono ?_
        rintro e w' ⟨rfl, hw'⟩
        subst hw'
        go_wp2
        go_region_held3 (fun _ => True) (trivial)
          ((first
            | (go_at_call 20; refine (unhide Hi1 w'.drew s c (unhide HBd) (unhide HX1)).mono ?_; rintro e w1 ⟨v1, rfl, hG1, hb1⟩; obtain ⟨s1, c1, rfl⟩ := hG1.form; have HG1 := hide hG1; have HB1 := hide hb1; clear hG1 hb1)
            | (go_at_call 15; refine (unhide Hi2 w1 s' c' (by have := unhide HBd; have := (unhide HB1).size; omega) ((unhide HX2).below (unhide HB1))).mono ?_; rintro e w2 ⟨v2, rfl, hv2, hb2, hq2⟩; have HL := hide (grl_lit (unhide HG1) (unhide HB1) hv2 hb2 (fun k hk => by have := hq2 k hk; have := unhide HBd; omega)); obtain ⟨s2, n2, c2, rfl⟩ := hv2.forms; clear hv2 hb2 hq2)
            | (refine step_append_grl rfl _ _ rfl w'.drew.heap.size _ _ _ _ _ (by simp [Act.eval]) (unhide HL).1 (by simp [Act.eval]) (unhide HL).2.1 (unhide HL).2.2.1 (unhide HL).2.2.2.1 (unhide HL).2.2.2.2.1 (unhide Hfew) ?_; intro v4 w4 hG4 hg4 _; have HF : Hid (GrL w4 w'.drew.heap.size v4 (bridgeP Sha.shaOf g f m n known) ∧ Below w'.drew.heap.size w'.drew w4) := (by show _ ∧ _; rw [unhide He]; exact ⟨hG4, grl_below (unhide HL).1 (unhide HL).2.2.2.2.2 hg4⟩); clear hG4 hg4)))
        go_wp2
        go_ret
        exact ⟨_, rfl, (unhide HF).1, (unhide Hdr).trans ((unhide HF).2)⟩
      · have Hi1 := hide (ih (n - cutP n) (by omega) (f + cutP n) (m - cutP n) false (by omega) (by omega) (by omega))
        have Hi2 := hide (qroot_c hg B (cutP n) f (by omega))
        have He := hide (bridge_right Sha.shaOf g f known hn2 (show cutP n < m by omega) (by omega))
        have Hfew : Hid ((bridgeP Sha.shaOf g (f + cutP n) (m - cutP n) (n - cutP n) false).length + 1 ≤ 1073741824) := by show _ ≤ _; have := bridge_few (g := g) (f := f + cutP n) (m := m - cutP n) (n := n - cutP n) (known := false) (by omega); omega
        obtain ⟨K, hK⟩ : ∃ K, cutP n = K := ⟨_, rfl⟩
        rw [hK] at hk1 hk0 Hi1 Hi2 He Hcu hx1 hx2 hs1 hs2 hmk Hfew
        obtain ⟨n', hn'⟩ : ∃ n', n - K = n' := ⟨_, rfl⟩
        obtain ⟨f', hf'⟩ : ∃ f', f + K = f' := ⟨_, rfl⟩
        obtain ⟨m', hm'⟩ : ∃ m', m - K = m' := ⟨_, rfl⟩
        obtain ⟨s', hs'⟩ : ∃ s', cutAt s c K = s' := ⟨_, rfl⟩
        obtain ⟨c', hc'⟩ : ∃ c', c - K = c' := ⟨_, rfl⟩
        rw [hn', hf', hm'] at Hi1 He Hfew
        rw [hn', hf', hs', hc'] at hx2
        rw [hn', hs', hc'] at hs2
        have k0 : (1 : Int) ≤ (K : Int) := by omega
        have k1 : (K : Int) < (n : Int) := by omega
        have e4 : IntKind.i64.wrap ((m : Int) - (K : Int)) = (m' : Int) := by rw [IntWalk.i64_in _ (by omega)]; omega
        have dm : decide ((m : Int) ≤ (K : Int)) = false := by simp; omega
        have dmn : decide (m ≤ K) = false := by simp; omega
        have HX1 := hide (hx1.below hdr)
        have HX2 := hide (hx2.below hdr)
        have Hdr := hide hdr
        clear hm' hK hn' hf' hs' hc' ih hx hx1 hx2 hg hn2 hdr hB hnc hn hmk
        go_enter Tryd.func20, Tryd.ntmps20
        go_wp2_with fail
        refine (unhide Hcu w).mono ?_
        rintro e w' ⟨rfl, hw'⟩
        subst hw'
        go_wp2
        go_region_held3 (fun _ => True) (trivial)
          ((first
            | (go_at_call 20; refine (unhide Hi1 w'.drew s' c' (unhide HBd) (unhide HX2)).mono ?_; rintro e w1 ⟨v1, rfl, hG1, hb1⟩; obtain ⟨s1, c1, rfl⟩ := hG1.form; have HG1 := hide hG1; have HB1 := hide hb1; clear hG1 hb1)
            | (go_at_call 15; refine (unhide Hi2 w1 s c (by have := unhide HBd; have := (unhide HB1).size; omega) ((unhide HX1).below (unhide HB1))).mono ?_; rintro e w2 ⟨v2, rfl, hv2, hb2, hq2⟩; have HL := hide (grl_lit (unhide HG1) (unhide HB1) hv2 hb2 (fun k hk => by have := hq2 k hk; have := unhide HBd; omega)); obtain ⟨s2, n2, c2, rfl⟩ := hv2.forms; clear hv2 hb2 hq2)
            | (refine step_append_grl rfl _ _ rfl w'.drew.heap.size _ _ _ _ _ (by simp [Act.eval]) (unhide HL).1 (by simp [Act.eval]) (unhide HL).2.1 (unhide HL).2.2.1 (unhide HL).2.2.2.1 (unhide HL).2.2.2.2.1 (unhide Hfew) ?_; intro v4 w4 hG4 hg4 _; have HF : Hid (GrL w4 w'.drew.heap.size v4 (bridgeP Sha.shaOf g f m n known) ∧ Below w'.drew.heap.size w'.drew w4) := (by show _ ∧ _; rw [unhide He]; exact ⟨hG4, grl_below (unhide HL).1 (unhide HL).2.2.2.2.2 hg4⟩); clear hG4 hg4)))
        go_wp2
        go_ret
        exact ⟨_, rfl, (unhide HF).1, (unhide Hdr).trans ((unhide HF).2)⟩
end Go.Proofs.YtmhlafhbdpeglaaDoor
namespace Go.Proofs.YtmhlafhbdpeglaaDoor
open Go.RowKit
theorem zeros_size (z : Array Value) (n : Nat) (hz : z.size = 1) : (Builtin.zeroCells z n).size = n := by simp [Builtin.zeroCells, hz]
theorem append_onto_empty (w : World) (B : Nat) (y : Value) (l : Bs) (hy : BytesAt w y l) (hne : l ≠ []) (hl : l.length ≤ 1000000) (ty : TypeId) : ∃ v' w', (Builtin.append_ #[28, 28] ty #[.slice (some ⟨B, 0, none⟩) 0 0, y]).run Tryd.prog w = .ok v' w' ∧ Row w w' v' l := by
  obtain ⟨hu, ⟨i, hi, hz, hsz, hby⟩, hone, hsmall⟩ := Eb
  obtain ⟨sp, c, rfl, h1, h2, h3⟩ := hy
  obtain ⟨b, o, rfl, hr⟩ := h3 (by simpa using hne)
  rw [List.length_map]
  have hpos : 0 < l.length := List.length_pos_iff.2 hne
  have hrun := run_append_grow (P := Tryd.prog) w 28 ty 5 i (.int .u8 0) hu hi hz ⟨B, 0, none⟩ 0 0 [] (by simp) (fun j v h => by simp at h) ⟨b, o, none⟩ l.length c (l.map bv) (by rw [hsz]; simp) (fun j v h => by rw [Addr.add_mid]; exact hr j v h) (by omega) (by omega) (by
    rw [hby]
    exact growslice_fits (by omega) (by omega))
  rw [Nat.zero_add] at hrun
  refine ⟨_, _, hrun, ?_, ((Below.refl _ _).drew).alloc (Nat.le_refl _) _⟩
  have hge := grownCap_ge w l.length 0 5
  have hle := grownCap_le_maxLen w l.length 0 5 (by simp only [maxLen]; omega)
  refine ⟨by simp, Or.inr ⟨w.heap.size, grownCap w l.length 0 5, _, by rw [List.length_map], Nat.le_refl _, heap_alloc_new w.drew _, by rw [List.length_map]; exact hge, hle, ?_, ?_⟩⟩
  · rw [Array.size_append, Array.size_append, zeros_size _ _ hone]
    simp
    omega
  · simp
/-- The same as a step of a region that draws: the new row lies behind all that was at w1. -/
theorem step_append_new {w w0 w1 : World} {ops : Array Oper} {o : Oper} {a : Act} {K : Act → World → Prop} {Q : Exit → Act → World → Prop} {E : Prop} (hgd : o.guard = none) (s x : Operand)
    (ho : o.op = .call { callee := .builtin .append, args := #[s, x], argTypes := #[28, 28] }) (B : Nat) (y : Value) (l : Bs) (hs : a.eval s = .slice (some ⟨B, 0, none⟩) 0 0)
    (hx : a.eval x = y) (hy : BytesAt w0 y l) (h01 : Below w0.heap.size w0 w) (h1 : Below w1.heap.size w1 w) (hne : l ≠ []) (hlen : l.length ≤ 1000000)
    (h : ∀ v' w', Row w1 w' v' l → K (a.put o.dst v') w') : if Region.wanted o (yielded ops a.tmps) = true then Oper.wp Tryd.prog o a w K Q else E := by
  have hw : Region.wanted o (yielded ops a.tmps) = true := by simp [Region.wanted, hgd]
  rw [if_pos hw]
  obtain ⟨v', w', hrun, hR⟩ := append_onto_empty w B y l (hy.below h01) hne hlen o.type
  unfold Oper.wp execOp
  simp only [ho, resolve, invoke, builtin, Sem.run_bind, Sem.run_pure, Result.andThen_ok, List.map_toArray, List.map_cons, List.map_nil, hs, hx, hrun]
  exact h v' w' (hR.up h1)
/-- Slots that are written. -/
def puts (a : Act) (l : List (Nat × Value)) : Act := l.foldl (fun a x => a.put (some x.1) x.2) a
theorem row_of_eq {a b : World} {v v' : Value} {l : Bs} (e : v' = v) (h : Row a b v l) : Row a b v' l := e ▸ h
/-- The second frame is the first one but for these slots. -/
def Slots (L : List Nat) (a a' : Act) : Prop := a' = puts a (L.map fun i => (i, a'.tmps.getD i undef))
/-- THE ENDS OF A REGION BROUGHT TO ONE: F says how it ends, whatever the order. -/
theorem region_join {P : Program} {id : Nat} {ops : Array Oper} {b : Bool} {Q : Exit → Act → World → Prop} {a : Act} {w : World} (F : Act → Act → World → Prop) (h1 : ∀ Q0 : Exit → Act → World → Prop, (∀ a' w', F a a' w' → Q0 .normal a' w') → (Code.region id ops b).wp P Q0 a w) (h2 : ∀ a' w', F a a' w' → Q .normal a' w') : (Code.region id ops b).wp P Q a w :=
  Code.wp_mono (fun e a' w' (h : e = .normal ∧ F a a' w') => by obtain ⟨rfl, h⟩ := h; exact h2 a' w' h) (h1 (fun e a' w' => e = .normal ∧ F a a' w') fun a' w' h => ⟨rfl, h⟩)
end Go.Proofs.YtmhlafhbdpeglaaDoor
namespace Go.Proofs.YtmhlafhbdpeglaaDoor
open Go.RowKit
theorem bv_set (l : Bs) (i : Nat) (x : UInt8) : (l.map bv).set i (.int .u8 (x.toNat : Int)) = (l.set i x).map bv := by rw [List.map_set]; rfl
theorem poke {W : World} {B : Nat} {v : Value} {l : Bs} (h : OwnB W B v l) {i : Nat} (hi : i < l.length) :
    ∃ b cap c, v = .slice (some ⟨b, 0, none⟩) l.length cap ∧ c < 256 ∧ B ≤ b ∧ W.cell? ⟨b, i, none⟩ = some (.int .u8 ((c : Nat) : Int)) ∧ W.frozen? ⟨b, i, none⟩ = false ∧
      ∀ r : Nat, r < 256 → OwnB (W.setCell ⟨b, i, none⟩ (.int .u8 (r : Int))) B v (l.set i (UInt8.ofNat r)) := by
  obtain ⟨b, rest, cap, hv, hb, hc, hm, hrow⟩ := OwnV.row h (by intro e; have := congrArg List.length e; rw [List.length_map] at this; simp at this; rw [this] at hi; simp at hi)
  rw [List.length_map] at hv hc
  refine ⟨b, cap, (l.getD i 0).toNat, hv, (l.getD i 0).toNat_lt, hb, ?_, hrow.frozen i, fun r hr => ?_⟩
  · rw [hrow.cell i (by rw [List.length_map]; exact hi)]
    simp [bv, List.getD_eq_getElem?_getD, hi]
  · have e : (.int .u8 (r : Int) : Value) = .int .u8 ((UInt8.ofNat r).toNat : Int) := by rw [UInt8.toNat_ofNat']; congr 2; omega
    have h2 := hrow.set i (by rw [List.length_map]; exact hi) (.int .u8 (r : Int))
    rw [e, bv_set] at h2
    rw [e, hv]
    have h3 := h2.own hb l.length cap (by rw [List.length_map, List.length_set]) hc hm
    exact h3
/-- A place of a list of one's own is written over. -/
theorem grl_store {w : World} {base : Nat} {v u : Value} {ls : List Bs} {d : Bs} {j : Nat} (h : GrL w base v ls) (hj : j < ls.length) (hu : BytesAt w u d) (hap : d ≠ [] → Apart v u) :
    ∃ pb cap old, v = .slice (some ⟨pb, 0, none⟩) ls.length cap ∧ base ≤ pb ∧ w.cell? ⟨pb, j, none⟩ = some old ∧ w.frozen? ⟨pb, j, none⟩ = false ∧ LL (w.setCell ⟨pb, j, none⟩ u) v (ls.set j d) := by
  obtain ⟨vs, h1, h2, h3⟩ := h
  obtain ⟨pb, rest, cap, hv, hB, hc, hm, hrow⟩ := h1.row (by rintro rfl; simp at h2; omega)
  rw [h2] at hv hc
  refine ⟨pb, cap, _, hv, hB, hrow.cell j (by omega), hrow.frozen j, ?_⟩
  have hset := hrow.set j (by omega) u
  have hown := hset.own hB ls.length cap (by rw [List.length_set]; exact h2) hc hm
  have key : ∀ (y : Value) (c : Bs), BytesAt w y c → (c ≠ [] → Apart v y) → BytesAt (w.setCell ⟨pb, j, none⟩ u) y c := fun y c hy ha => by
    refine bytes_grown (row := some pb) hy (grown_setCell (World.grownBy.refl _ _) ⟨pb, j, none⟩ u rfl) fun hne k hk e => ha hne k ?_ e
    rw [hv]; simpa [Value.ownBlock] using hk
  rw [hv]
  refine ⟨vs.set j u, hown.vals, by rw [List.length_set, List.length_set]; exact h2, fun i hi => ?_⟩
  rw [List.length_set] at hi
  rw [getD_set _ _ _ _ _ (by omega), getD_set _ _ _ _ _ hj]
  split
  · exact key _ _ hu hap
  · exact key _ _ (h3 i hi).1 (h3 i hi).2
/-- What the two verifiers are handed. -/
structure Fin16 (w W : World) (lv rv pv : Value) (l r : Bs) (P : List Bs) : Prop where
  leaf : BytesAt W lv l
  root : BytesAt W rv r
  list : LL W pv P
  few : P.length ≤ 1000
  ready : Sha.Ready W
  b : Below w.heap.size w W
theorem Fin16.on {w W W' : World} {lv rv pv : Value} {l r : Bs} {P : List Bs} (h : Fin16 w W lv rv pv l r P) (hb : Below W.heap.size W W') : Fin16 w W' lv rv pv l r P := ⟨h.leaf.below hb, h.root.below hb, h.list.below hb, h.few, ready_on h.ready hb, h.b.trans (hb.mono h.b.size)⟩
end Go.Proofs.YtmhlafhbdpeglaaDoor
