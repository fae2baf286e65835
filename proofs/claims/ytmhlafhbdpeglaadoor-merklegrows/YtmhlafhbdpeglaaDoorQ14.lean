/-
  The walks of the tree's path and bridge.
  The walks of the tree's Size, Root, Path and Bridge.
-/
import Derived.Test.YtmhlafhbdpeglaaDoorQ13
namespace Go.Proofs.YtmhlafhbdpeglaaDoor
open Go.RowKit
/-- A list, a hash beside it, and a slice of that hash alone. -/
theorem grl_lit {w w1 w2 : World} {v1 u : Value} {ls : List Bs} {b : Bs} (h1 : GrL w1 w.heap.size v1 ls) (hb1 : Below w.heap.size w w1) (hu : BytesAt w2 u b) (hb2 : Below w1.heap.size w1 w2) (hf : ∀ k, u.ownBlock = some k → k < w.heap.size ∨ w1.heap.size ≤ k) :
    GrL (w2.alloc (.cells #[u] 28)) w.heap.size v1 ls ∧ ValsAt (w2.alloc (.cells #[u] 28)) (.slice (some ⟨w2.heap.size, 0, none⟩) 1 1) [u] ∧ BytesAt (w2.alloc (.cells #[u] 28)) u b ∧ (b ≠ [] → Apart v1 u) ∧ w.heap.size ≤ (w2.alloc (.cells #[u] 28)).heap.size ∧ Below w.heap.size w (w2.alloc (.cells #[u] 28)) := by
  have hb3 : Below w2.heap.size w2 (w2.alloc (.cells #[u] 28)) := (Below.refl _ _).alloc (Nat.le_refl _) _
  have hB : Below w.heap.size w (w2.alloc (.cells #[u] 28)) := (hb1.trans (hb2.mono hb1.size)).trans (hb3.mono (Nat.le_trans hb1.size hb2.size))
  refine ⟨(h1.below hb2).below hb3, vals_new w2 [u] 28, hu.below hb3, fun _ k hk hq => ?_, hB.size, hB⟩
  have := h1.lt k hk
  have := hf k hq
  omega
theorem grl_below {w w3 w4 : World} {v1 : Value} {ls : List Bs} (h : GrL w3 w.heap.size v1 ls) (hB : Below w.heap.size w w3) (hg : w3.grownBy w4 v1.ownBlock) : Below w.heap.size w w4 := hB.grown hg hB.size fun k hk => h.fresh k hk
theorem row_fresh {w1 w2 : World} {u : Value} {b : Bs} (h : Row w1 w2 u b) (w : World) : ∀ k, u.ownBlock = some k → k < w.heap.size ∨ w1.heap.size ≤ k := fun k hk => Or.inr (h.own.fresh k hk)
/-- A list of one hash. -/
theorem grl_one {w w1 : World} {u : Value} {b : Bs} (hu : BytesAt w1 u b) (hb : Below w.heap.size w w1) (hne : b ≠ []) : GrL (w1.alloc (.cells #[u] 28)) w.heap.size (.slice (some ⟨w1.heap.size, 0, none⟩) 1 1) [b] ∧ Below w.heap.size w (w1.alloc (.cells #[u] 28)) := by
  have hb3 : Below w1.heap.size w1 (w1.alloc (.cells #[u] 28)) := (Below.refl _ _).alloc (Nat.le_refl _) _
  refine ⟨⟨[u], (own_new 28 w1 [u] (by simp [maxLen])).mono hb.size, rfl, fun i hi => ?_⟩, hb.trans (hb3.mono hb.size)⟩
  obtain rfl : i = 0 := by simpa using hi
  refine ⟨hu.below hb3, fun _ k hk hq => ?_⟩
  have := ValsAt.old hu (by simpa using hne) k hq
  simp [Value.ownBlock] at hk
  omega
theorem path_few {g : Nat → Bs} {f m n : Nat} (h : n ≤ 101) : (pathP Sha.shaOf g f m n).length ≤ 7 := path_len 7 n f m (by omega)
theorem bridge_few {g : Nat → Bs} {f m n : Nat} {known : Bool} (h : n ≤ 101) : (bridgeP Sha.shaOf g f m n known).length ≤ 8 := bridge_len 7 n f m known (by omega)
set_option maxRecDepth 100000 in
set_option maxHeartbeats 4000000 in
theorem tpath_i {S : Set_} {t : Nat} {g : Nat → Bs} {N : Nat} (hg : ∀ i, (g i).length = 32) (hN : N ≤ 101) : ∀ (n f m : Nat), m < n → Dv f n → f + n ≤ N → ∀ w, Sha.Ready w → TreeAt S w t g N →
    GivesL w 34 #[.pointer (some ⟨t, 0, none⟩), .int .i64 (f : Int), .int .i64 (m : Int), .int .i64 (n : Int)] (pathP Sha.shaOf g f m n) := by
  intro n
  induction n using Nat.strongRecOn with
  | ind n ih =>
    intro f m hm hd hf w hr T
    have n1 : (1 : Int) ≤ (n : Int) := by omega
    have n2 : (n : Int) ≤ 101 := by omega
    have f0 : (0 : Int) ≤ (f : Int) := by omega
    have f1 : (f : Int) ≤ 101 := by omega
    have m0 : (0 : Int) ≤ (m : Int) := by omega
    have m1 : (m : Int) < (n : Int) := by omega
    by_cases h1 : n = 1
    · subst h1
      have He := hide (path_one Sha.shaOf g f m)
      clear ih hd hf hr T hg hN
      go_enter Tryd.func34, Tryd.ntmps34
      go_wp2
      go_ret
      exact ⟨_, rfl, by rw [unhide He]; exact grl_nil w _, Below.refl _ _⟩
    · have hn2 : 2 ≤ n := by omega
      have d1 : ((n : Int) == 1) = false := by simp; omega
      have hk1 := cut_lt hn2
      have hk0 := cut_pos n
      have Hcu := hide (fun w => split_c w n hn2 (by omega))
      have HT := hide T
      have HR := hide hr
      by_cases hmk : m < cutP n
      · have Hi := hide (ih (cutP n) hk1 f m hmk (hd.left hn2) (by omega))
        have Ho := hide (over_c (S := S) (t := t) hg hN (n - cutP n) (f + cutP n) (by omega) (hd.right hn2) (by omega))
        have He := hide (path_left Sha.shaOf g f hn2 hmk)
        have Hfew : Hid ((pathP Sha.shaOf g f m (cutP n)).length + 1 ≤ 1073741824) := by show _ ≤ _; have := path_few (g := g) (f := f) (m := m) (n := cutP n) (by omega); omega
        obtain ⟨K, hK⟩ : ∃ K, cutP n = K := ⟨_, rfl⟩
        rw [hK] at hk1 hk0 Hi Ho He Hcu hmk Hfew
        obtain ⟨n', hn'⟩ : ∃ n', n - K = n' := ⟨_, rfl⟩
        obtain ⟨f', hf'⟩ : ∃ f', f + K = f' := ⟨_, rfl⟩
        rw [hn', hf'] at Ho He
        have k0 : (1 : Int) ≤ (K : Int) := by omega
        have k1 : (K : Int) < (n : Int) := by omega
        have e1 : (n : Int) - (K : Int) = (n' : Int) := by omega
        have e2 : (f : Int) + (K : Int) = (f' : Int) := by omega
        have dm : decide ((m : Int) < (K : Int)) = true := by simp; omega
        have dmn : decide (m < K) = true := by simp; omega
        clear hK hn' hf' hd hf ih T hr hg hN hn2
        go_enter Tryd.func34, Tryd.ntmps34
        go_wp2_with fail
        refine (unhide Hcu w).mono ?_
        rintro e w' ⟨rfl, hw'⟩
        subst hw'
        go_wp2_with fail
        refine (unhide Hi w' (unhide HR) (unhide HT)).mono ?_
        rintro e w1 ⟨v1, rfl, hG1, hb1⟩
        obtain ⟨s1, c1, rfl⟩ := hG1.form
        have HR1 := hide (ready_on (unhide HR) hb1)
        have HT1 := hide ((unhide HT).below hb1)
        have HG1 := hide hG1
        have HB1 := hide hb1
        clear hG1 hb1
        go_wp2_with fail
        refine (unhide Ho w1 (unhide HR1) (unhide HT1)).mono ?_
        rintro e w2 ⟨v2, rfl, hR2⟩
        have HL := hide (grl_lit (unhide HG1) (unhide HB1) hR2.bytes hR2.b (row_fresh hR2 w'))
        obtain ⟨s2, n2, c2, rfl⟩ := hR2.bytes.forms
        clear hR2
        go_wp2_with (at_builtin; refine wpList_append_grl rfl _ _ rfl w'.heap.size _ _ _ _ _ rfl (unhide HL).1 rfl (unhide HL).2.1 (unhide HL).2.2.1 (unhide HL).2.2.2.1 (unhide HL).2.2.2.2.1 (unhide Hfew) ?_
                     intro v4 w4 hG4 hg4 _
                     have HF : Hid (GrL w4 w'.heap.size v4 (pathP Sha.shaOf g f m n) ∧ Below w'.heap.size w' w4) := by show _ ∧ _; rw [unhide He]; exact ⟨hG4, grl_below (unhide HL).1 (unhide HL).2.2.2.2.2 hg4⟩
                     clear hG4 hg4)
        go_ret
        exact ⟨_, rfl, unhide HF⟩
      · have Hi := hide (ih (n - cutP n) (by omega) (f + cutP n) (m - cutP n) (by omega) (hd.right hn2) (by omega))
        have Ho := hide (over_c (S := S) (t := t) hg hN (cutP n) f hk0 (hd.left hn2) (by omega))
        have He := hide (path_right Sha.shaOf g f hn2 (show cutP n ≤ m by omega))
        have Hfew : Hid ((pathP Sha.shaOf g (f + cutP n) (m - cutP n) (n - cutP n)).length + 1 ≤ 1073741824) := by show _ ≤ _; have := path_few (g := g) (f := f + cutP n) (m := m - cutP n) (n := n - cutP n) (by omega); omega
        obtain ⟨K, hK⟩ : ∃ K, cutP n = K := ⟨_, rfl⟩
        rw [hK] at hk1 hk0 Hi Ho He Hcu hmk Hfew
        obtain ⟨n', hn'⟩ : ∃ n', n - K = n' := ⟨_, rfl⟩
        obtain ⟨f', hf'⟩ : ∃ f', f + K = f' := ⟨_, rfl⟩
        obtain ⟨m', hm'⟩ : ∃ m', m - K = m' := ⟨_, rfl⟩
        rw [hn', hf', hm'] at Hi He Hfew
        have k0 : (1 : Int) ≤ (K : Int) := by omega
        have k1 : (K : Int) < (n : Int) := by omega
        have e1 : (n : Int) - (K : Int) = (n' : Int) := by omega
        have e2 : (f : Int) + (K : Int) = (f' : Int) := by omega
        have e3 : (m : Int) - (K : Int) = (m' : Int) := by omega
        have dm : decide ((m : Int) < (K : Int)) = false := by simp; omega
        have dmn : decide (m < K) = false := by simp; omega
        clear hK hn' hf' hm' hd hf ih T hr hg hN hn2
        go_enter Tryd.func34, Tryd.ntmps34
        go_wp2_with fail
        refine (unhide Hcu w).mono ?_
        rintro e w' ⟨rfl, hw'⟩
        subst hw'
        go_wp2_with fail
        refine (unhide Hi w' (unhide HR) (unhide HT)).mono ?_
        rintro e w1 ⟨v1, rfl, hG1, hb1⟩
        obtain ⟨s1, c1, rfl⟩ := hG1.form
        have HR1 := hide (ready_on (unhide HR) hb1)
        have HT1 := hide ((unhide HT).below hb1)
        have HG1 := hide hG1
        have HB1 := hide hb1
        clear hG1 hb1
        go_wp2_with fail
        refine (unhide Ho w1 (unhide HR1) (unhide HT1)).mono ?_
        rintro e w2 ⟨v2, rfl, hR2⟩
        have HL := hide (grl_lit (unhide HG1) (unhide HB1) hR2.bytes hR2.b (row_fresh hR2 w'))
        obtain ⟨s2, n2, c2, rfl⟩ := hR2.bytes.forms
        clear hR2
        go_wp2_with (at_builtin; refine wpList_append_grl rfl _ _ rfl w'.heap.size _ _ _ _ _ rfl (unhide HL).1 rfl (unhide HL).2.1 (unhide HL).2.2.1 (unhide HL).2.2.2.1 (unhide HL).2.2.2.2.1 (unhide Hfew) ?_
                     intro v4 w4 hG4 hg4 _
                     have HF : Hid (GrL w4 w'.heap.size v4 (pathP Sha.shaOf g f m n) ∧ Below w'.heap.size w' w4) := by show _ ∧ _; rw [unhide He]; exact ⟨hG4, grl_below (unhide HL).1 (unhide HL).2.2.2.2.2 hg4⟩
                     clear hG4 hg4)
        go_ret
        exact ⟨_, rfl, unhide HF⟩
set_option maxRecDepth 100000 in
set_option maxHeartbeats 4000000 in
theorem tbridge_i {S : Set_} {t : Nat} {g : Nat → Bs} {N : Nat} (hg : ∀ i, (g i).length = 32) (hN : N ≤ 101) : ∀ (n f m : Nat) (known : Bool), 1 ≤ m → m ≤ n → Dv f n → f + n ≤ N → ∀ w, Sha.Ready w → TreeAt S w t g N →
    GivesL w 35 #[.pointer (some ⟨t, 0, none⟩), .int .i64 (f : Int), .int .i64 (m : Int), .int .i64 (n : Int), .bool known] (bridgeP Sha.shaOf g f m n known) := by
  intro n
  induction n using Nat.strongRecOn with
  | ind n ih =>
    intro f m known h1m hm hd hf w hr T
    have n1 : (1 : Int) ≤ (n : Int) := by omega
    have n2 : (n : Int) ≤ 101 := by omega
    have f0 : (0 : Int) ≤ (f : Int) := by omega
    have f1 : (f : Int) ≤ 101 := by omega
    have m0 : (1 : Int) ≤ (m : Int) := by omega
    have m1 : (m : Int) ≤ (n : Int) := by omega
    by_cases h1 : m = n
    · subst h1
      have d1 : ((m : Int) == (m : Int)) = true := by simp
      cases known with
      | true =>
        have He : Hid (bridgeP Sha.shaOf g f m m true = []) := by show _ = _; rw [bridge_end]; rfl
        clear ih hd hf hr T hg hN
        go_enter Tryd.func35, Tryd.ntmps35
        go_wp2
        go_ret
        exact ⟨_, rfl, by rw [unhide He]; exact grl_nil w _, Below.refl _ _⟩
      | false =>
        have He : Hid (bridgeP Sha.shaOf g f m m false = [rootP Sha.shaOf g f m]) := by show _ = _; rw [bridge_end]; rfl
        have Ho := hide (over_c (S := S) (t := t) hg hN m f (by omega) hd (by omega) w hr T)
        have Hlen : Hid (rootP Sha.shaOf g f m ≠ []) := fun e => by
          have := len_root (H := Sha.shaOf) (g := g) Sha.length_shaOf m f fun i _ _ => hg i
          rw [e] at this; simp at this
        clear ih hd hf hr T hg hN
        go_enter Tryd.func35, Tryd.ntmps35
        go_wp2_with fail
        refine (unhide Ho).mono ?_
        rintro e w1 ⟨v1, rfl, hR1⟩
        have HG := hide (grl_one hR1.bytes hR1.b (unhide Hlen))
        obtain ⟨s1, n1, c1, rfl⟩ := hR1.bytes.forms
        clear hR1
        go_wp2
        go_ret
        exact ⟨_, rfl, by rw [unhide He]; exact (unhide HG).1, (unhide HG).2⟩
    · have hn2 : 2 ≤ n := by omega
      have d1 : ((m : Int) == (n : Int)) = false := by simp; omega
      have hk1 := cut_lt hn2
      have hk0 := cut_pos n
      have Hcu := hide (fun w => split_c w n hn2 (by omega))
      have HT := hide T
      have HR := hide hr
      by_cases hmk : m ≤ cutP n
      · have Hi := hide (ih (cutP n) hk1 f m known h1m hmk (hd.left hn2) (by omega))
        have Ho := hide (over_c (S := S) (t := t) hg hN (n - cutP n) (f + cutP n) (by omega) (hd.right hn2) (by omega))
        have He := hide (bridge_left Sha.shaOf g f known hn2 hmk)
        have Hfew : Hid ((bridgeP Sha.shaOf g f m (cutP n) known).length + 1 ≤ 1073741824) := by show _ ≤ _; have := bridge_few (g := g) (f := f) (m := m) (n := cutP n) (known := known) (by omega); omega
        obtain ⟨K, hK⟩ : ∃ K, cutP n = K := ⟨_, rfl⟩
        rw [hK] at hk1 hk0 Hi Ho He Hcu hmk Hfew
        obtain ⟨n', hn'⟩ : ∃ n', n - K = n' := ⟨_, rfl⟩
        obtain ⟨f', hf'⟩ : ∃ f', f + K = f' := ⟨_, rfl⟩
        rw [hn', hf'] at Ho He
        have k0 : (1 : Int) ≤ (K : Int) := by omega
        have k1 : (K : Int) < (n : Int) := by omega
        have e1 : (n : Int) - (K : Int) = (n' : Int) := by omega
        have e2 : (f : Int) + (K : Int) = (f' : Int) := by omega
        have dm : decide ((m : Int) ≤ (K : Int)) = true := by simp; omega
        have dmn : decide (m ≤ K) = true := by simp; omega
        clear hK hn' hf' hd hf ih T hr hg hN hn2
        go_enter Tryd.func35, Tryd.ntmps35
        go_wp2_with fail
        refine (unhide Hcu w).mono ?_
        rintro e w' ⟨rfl, hw'⟩
        subst hw'
        go_wp2_with fail
        refine (unhide Hi w' (unhide HR) (unhide HT)).mono ?_
        rintro e w1 ⟨v1, rfl, hG1, hb1⟩
        obtain ⟨s1, c1, rfl⟩ := hG1.form
        have HR1 := hide (ready_on (unhide HR) hb1)
        have HT1 := hide ((unhide HT).below hb1)
        have HG1 := hide hG1
        have HB1 := hide hb1
        clear hG1 hb1
        go_wp2_with fail
        refine (unhide Ho w1 (unhide HR1) (unhide HT1)).mono ?_
        rintro e w2 ⟨v2, rfl, hR2⟩
        have HL := hide (grl_lit (unhide HG1) (unhide HB1) hR2.bytes hR2.b (row_fresh hR2 w'))
        obtain ⟨s2, n2, c2, rfl⟩ := hR2.bytes.forms
        clear hR2
        go_wp2_with (at_builtin; refine wpList_append_grl rfl _ _ rfl w'.heap.size _ _ _ _ _ rfl (unhide HL).1 rfl (unhide HL).2.1 (unhide HL).2.2.1 (unhide HL).2.2.2.1 (unhide HL).2.2.2.2.1 (unhide Hfew) ?_
                     intro v4 w4 hG4 hg4 _
                     have HF : Hid (GrL w4 w'.heap.size v4 (bridgeP Sha.shaOf g f m n known) ∧ Below w'.heap.size w' w4) := by show _ ∧ _; rw [unhide He]; exact ⟨hG4, grl_below (unhide HL).1 (unhide HL).2.2.2.2.2 hg4⟩
                     clear hG4 hg4)
        go_ret
        exact ⟨_, rfl, unhide HF⟩
      · have Hi := hide (ih (n - cutP n) (by omega) (f + cutP n) (m - cutP n) false (by omega) (by omega) (hd.right hn2) (by omega))
        have Ho := hide (over_c (S := S) (t := t) hg hN (cutP n) f hk0 (hd.left hn2) (by omega))
        have He := hide (bridge_right Sha.shaOf g f known hn2 (show cutP n < m by omega) (by omega))
        have Hfew : Hid ((bridgeP Sha.shaOf g (f + cutP n) (m - cutP n) (n - cutP n) false).length + 1 ≤ 1073741824) := by show _ ≤ _; have := bridge_few (g := g) (f := f + cutP n) (m := m - cutP n) (n := n - cutP n) (known := false) (by omega); omega
        obtain ⟨K, hK⟩ : ∃ K, cutP n = K := ⟨_, rfl⟩
        rw [hK] at hk1 hk0 Hi Ho He Hcu hmk Hfew
        obtain ⟨n', hn'⟩ : ∃ n', n - K = n' := ⟨_, rfl⟩
        obtain ⟨f', hf'⟩ : ∃ f', f + K = f' := ⟨_, rfl⟩
        obtain ⟨m', hm'⟩ : ∃ m', m - K = m' := ⟨_, rfl⟩
        rw [hn', hf', hm'] at Hi He Hfew
        have k0 : (1 : Int) ≤ (K : Int) := by omega
        have k1 : (K : Int) < (n : Int) := by omega
        have e1 : (n : Int) - (K : Int) = (n' : Int) := by omega
        have e2 : (f : Int) + (K : Int) = (f' : Int) := by omega
        have e3 : (m : Int) - (K : Int) = (m' : Int) := by omega
        have dm : decide ((m : Int) ≤ (K : Int)) = false := by simp; omega
        have dmn : decide (m ≤ K) = false := by simp; omega
        clear hK hn' hf' hm' hd hf ih T hr hg hN hn2
        go_enter Tryd.func35, Tryd.ntmps35
        go_wp2_with fail
        refine (unhide Hcu w).mono ?_
        rintro e w' ⟨rfl, hw'⟩
        subst hw'
        go_wp2_with fail
        refine (unhide Hi w' (unhide HR) (unhide HT)).mono ?_
        rintro e w1 ⟨v1, rfl, hG1, hb1⟩
        obtain ⟨s1, c1, rfl⟩ := hG1.form
        have HR1 := hide (ready_on (unhide HR) hb1)
        have HT1 := hide ((unhide HT).below hb1)
        have HG1 := hide hG1
        have HB1 := hide hb1
        clear hG1 hb1
        go_wp2_with fail
        refine (unhide Ho w1 (unhide HR1) (unhide HT1)).mono ?_
        rintro e w2 ⟨v2, rfl, hR2⟩
        have HL := hide (grl_lit (unhide HG1) (unhide HB1) hR2.bytes hR2.b (row_fresh hR2 w'))
        obtain ⟨s2, n2, c2, rfl⟩ := hR2.bytes.forms
        clear hR2
        go_wp2_with (at_builtin; refine wpList_append_grl rfl _ _ rfl w'.heap.size _ _ _ _ _ rfl (unhide HL).1 rfl (unhide HL).2.1 (unhide HL).2.2.1 (unhide HL).2.2.2.1 (unhide HL).2.2.2.2.1 (unhide Hfew) ?_
                     intro v4 w4 hG4 hg4 _
                     have HF : Hid (GrL w4 w'.heap.size v4 (bridgeP Sha.shaOf g f m n known) ∧ Below w'.heap.size w' w4) := by show _ ∧ _; rw [unhide He]; exact ⟨hG4, grl_below (unhide HL).1 (unhide HL).2.2.2.2.2 hg4⟩
                     clear hG4 hg4)
        go_ret
        exact ⟨_, rfl, unhide HF⟩
end Go.Proofs.YtmhlafhbdpeglaaDoor
namespace Go.Proofs.YtmhlafhbdpeglaaDoor
open Go.RowKit
set_option maxRecDepth 100000 in
set_option maxHeartbeats 1000000 in
theorem tsize_c {S : Set_} {t : Nat} {g : Nat → Bs} {N : Nat} (w : World) (T : TreeAt S w t g N) (hN : N ≤ 101) : Calls Tryd.prog 13 #[.pointer (some ⟨t, 0, none⟩)] w fun e w' => e = .returned (.int .i64 (N : Int)) ∧ w' = w := by
  obtain ⟨cs, T⟩ := T
  obtain ⟨vs, h1, h2, _⟩ := T.row 0 (by omega)
  have hc := T.blk.cell 0 (by rw [T.len]; omega)
  obtain ⟨sp, c, e⟩ := h1.form
  rw [h2, Nat.pow_zero, Nat.div_one] at e
  rw [e] at hc
  have n1 : (N : Int) ≤ 101 := by omega
  have n0 : (0 : Int) ≤ (N : Int) := by omega
  clear T h1 h2 e
  go_enter Tryd.func13, Tryd.ntmps13
  go_wp2
  go_ret
  exact ⟨rfl, rfl⟩
/-- The call tells bytes in new memory, and yes. -/
def YesB (w : World) (f : FuncId) (args : Array Value) (l : Bs) : Prop := Calls Tryd.prog f args w fun e w' => ∃ v, e = .returned (.tuple #[v, .bool true]) ∧ Row w w' v l
def YesL (w : World) (f : FuncId) (args : Array Value) (ls : List Bs) : Prop := Calls Tryd.prog f args w fun e w' => ∃ v, e = .returned (.tuple #[v, .bool true]) ∧ GrL w' w.heap.size v ls ∧ Below w.heap.size w w'
def NoL (w : World) (f : FuncId) (args : Array Value) : Prop := Calls Tryd.prog f args w fun e w' => e = .returned (.tuple #[.slice none 0 0, .bool false]) ∧ w' = w
set_option maxRecDepth 100000 in
set_option maxHeartbeats 1000000 in
theorem troot_yes {S : Set_} {t : Nat} {g : Nat → Bs} {N : Nat} (hg : ∀ i, (g i).length = 32) (hN : N ≤ 101) (w : World) (hr : Sha.Ready w) (T : TreeAt S w t g N) (n : Nat) (hn : n ≤ N) : YesB w 12 #[.pointer (some ⟨t, 0, none⟩), .int .i64 (n : Int)] (rootP Sha.shaOf g 0 n) := by
  have n0 : (0 : Int) ≤ (n : Int) := by omega
  have n1 : (n : Int) ≤ 101 := by omega
  have d0 : decide ((n : Int) < 0) = false := by simp
  have d1 : decide ((N : Int) < (n : Int)) = false := by simp; omega
  have d1n : decide (N < n) = false := by simp; omega
  have Hs := hide (tsize_c w T hN)
  by_cases hz : n = 0
  · subst hz
    have He := hide (root_zero Sha.shaOf g 0)
    have HR := hide hr
    clear T hr hg hN
    go_enter Tryd.func12, Tryd.ntmps12
    go_wp2_with (first
      | (refine (unhide Hs).mono ?_
         rintro e w1 ⟨rfl, hw1⟩
         subst hw1
         clear Hs)
      | (refine (ssum_c w1 (unhide HR) _ [] (bytes_nil _) (by simp)).mono ?_
         rintro e w2 ⟨v2, rfl, hR2⟩
         have HR2 : Hid (Row w1 w2 v2 (rootP Sha.shaOf g 0 0)) := by show Row _ _ _ _; rw [unhide He]; exact hR2
         clear hR2))
    refine bodyPost_ret (v := .tuple #[v2, .bool true]) (by simp [results, Tryd.results12, go_sem]) rfl ⟨_, rfl, unhide HR2⟩
  · have dz : ((n : Int) == 0) = false := by simp; omega
    have Ho := hide (over_c (S := S) (t := t) hg hN n 0 (by omega) (dv_zero n) (by omega) w hr T)
    clear T hr hg hN
    go_enter Tryd.func12, Tryd.ntmps12
    go_wp2_with (first
      | (refine (unhide Hs).mono ?_
         rintro e w1 ⟨rfl, hw1⟩
         subst hw1
         clear Hs)
      | (refine (unhide Ho).mono ?_
         rintro e w2 ⟨v2, rfl, hR2⟩
         have HR2 := hide hR2
         clear hR2))
    refine bodyPost_ret (v := .tuple #[v2, .bool true]) (by simp [results, Tryd.results12, go_sem]) rfl ⟨_, rfl, unhide HR2⟩
set_option maxRecDepth 100000 in
set_option maxHeartbeats 1000000 in
theorem troot_no {S : Set_} {t : Nat} {g : Nat → Bs} {N : Nat} (hN : N ≤ 101) (w : World) (T : TreeAt S w t g N) (n : Int) (hb : -9223372036854775808 ≤ n ∧ n ≤ 9223372036854775807) (hn : n < 0 ∨ (N : Int) < n) : NoL w 12 #[.pointer (some ⟨t, 0, none⟩), .int .i64 n] := by
  obtain ⟨b1, b2⟩ := hb
  have Hs := hide (tsize_c w T hN)
  by_cases h0 : n < 0
  · have d0 : decide (n < 0) = true := by simp; omega
    clear T
    go_enter Tryd.func12, Tryd.ntmps12
    go_wp2
    refine bodyPost_ret (v := .tuple #[.slice none 0 0, .bool false]) (by simp [results, Tryd.results12, go_sem]) rfl ⟨rfl, rfl⟩
  · have d0 : decide (n < 0) = false := by simp; omega
    have d1 : decide ((N : Int) < n) = true := by simp; omega
    clear T
    go_enter Tryd.func12, Tryd.ntmps12
    go_wp2_with ((refine (unhide Hs).mono ?_
                  rintro e w1 ⟨rfl, hw1⟩
                  subst hw1
                  clear Hs))
    refine bodyPost_ret (v := .tuple #[.slice none 0 0, .bool false]) (by simp [results, Tryd.results12, go_sem]) rfl ⟨rfl, rfl⟩
set_option maxRecDepth 100000 in
set_option maxHeartbeats 1000000 in
theorem tpath_yes {S : Set_} {t : Nat} {g : Nat → Bs} {N : Nat} (hg : ∀ i, (g i).length = 32) (hN : N ≤ 101) (w : World) (hr : Sha.Ready w) (T : TreeAt S w t g N) (m n : Nat) (hm : m < n) (hn : n ≤ N) : YesL w 16 #[.pointer (some ⟨t, 0, none⟩), .int .i64 (m : Int), .int .i64 (n : Int)] (pathP Sha.shaOf g 0 m n) := by
  have m0 : (0 : Int) ≤ (m : Int) := by omega
  have n1 : (n : Int) ≤ 101 := by omega
  have d0 : decide ((m : Int) < 0) = false := by simp
  have d2 : decide ((n : Int) ≤ (m : Int)) = false := by simp; omega
  have d2n : decide (n ≤ m) = false := by simp; omega
  have d1 : decide ((N : Int) < (n : Int)) = false := by simp; omega
  have d1n : decide (N < n) = false := by simp; omega
  have Hs := hide (tsize_c w T hN)
  have Ho := hide (tpath_i (S := S) (t := t) hg hN n 0 m hm (dv_zero n) (by omega) w hr T)
  clear T hr hg hN
  go_enter Tryd.func16, Tryd.ntmps16
  go_wp2_with (first
    | (refine (unhide Hs).mono ?_
       rintro e w1 ⟨rfl, hw1⟩
       subst hw1
       clear Hs)
    | (refine (unhide Ho).mono ?_
       rintro e w2 ⟨v2, rfl, hG2, hb2⟩
       have HG2 := hide (And.intro hG2 hb2)
       clear hG2 hb2))
  refine bodyPost_ret (v := .tuple #[v2, .bool true]) (by simp [results, Tryd.results16, go_sem]) rfl ⟨_, rfl, unhide HG2⟩
set_option maxRecDepth 100000 in
set_option maxHeartbeats 1000000 in
theorem tpath_no {S : Set_} {t : Nat} {g : Nat → Bs} {N : Nat} (hN : N ≤ 101) (w : World) (T : TreeAt S w t g N) (m n : Int) (hb : -9223372036854775808 ≤ n ∧ n ≤ 9223372036854775807) (hbm : -9223372036854775808 ≤ m ∧ m ≤ 9223372036854775807) (hn : m < 0 ∨ n ≤ m ∨ (N : Int) < n) : NoL w 16 #[.pointer (some ⟨t, 0, none⟩), .int .i64 m, .int .i64 n] := by
  obtain ⟨b1, b2⟩ := hb
  obtain ⟨b3, b4⟩ := hbm
  have Hs := hide (tsize_c w T hN)
  by_cases h0 : m < 0
  · have d0 : decide (m < 0) = true := by simp; omega
    clear T
    go_enter Tryd.func16, Tryd.ntmps16
    go_wp2
    refine bodyPost_ret (v := .tuple #[.slice none 0 0, .bool false]) (by simp [results, Tryd.results16, go_sem]) rfl ⟨rfl, rfl⟩
  · have d0 : decide (m < 0) = false := by simp; omega
    by_cases h1 : n ≤ m
    · have d1 : decide (n ≤ m) = true := by simp; omega
      clear T
      go_enter Tryd.func16, Tryd.ntmps16
      go_wp2
      refine bodyPost_ret (v := .tuple #[.slice none 0 0, .bool false]) (by simp [results, Tryd.results16, go_sem]) rfl ⟨rfl, rfl⟩
    · have d1 : decide (n ≤ m) = false := by simp; omega
      have d2 : decide ((N : Int) < n) = true := by simp; omega
      clear T
      go_enter Tryd.func16, Tryd.ntmps16
      go_wp2_with ((refine (unhide Hs).mono ?_
                    rintro e w1 ⟨rfl, hw1⟩
                    subst hw1
                    clear Hs))
      refine bodyPost_ret (v := .tuple #[.slice none 0 0, .bool false]) (by simp [results, Tryd.results16, go_sem]) rfl ⟨rfl, rfl⟩
set_option maxRecDepth 100000 in
set_option maxHeartbeats 1000000 in
theorem tbridge_yes {S : Set_} {t : Nat} {g : Nat → Bs} {N : Nat} (hg : ∀ i, (g i).length = 32) (hN : N ≤ 101) (w : World) (hr : Sha.Ready w) (T : TreeAt S w t g N) (m n : Nat) (hm : m ≤ n) (hn : n ≤ N) : YesL w 19 #[.pointer (some ⟨t, 0, none⟩), .int .i64 (m : Int), .int .i64 (n : Int)] (if m = 0 ∨ m = n then [] else bridgeP Sha.shaOf g 0 m n true) := by
  have m0 : (0 : Int) ≤ (m : Int) := by omega
  have n1 : (n : Int) ≤ 101 := by omega
  have d0 : decide ((m : Int) < 0) = false := by simp
  have d2 : decide ((n : Int) < (m : Int)) = false := by simp; omega
  have d2n : decide (n < m) = false := by simp; omega
  have d1 : decide ((N : Int) < (n : Int)) = false := by simp; omega
  have d1n : decide (N < n) = false := by simp; omega
  have Hs := hide (tsize_c w T hN)
  by_cases hz : m = 0
  · subst hz
    rw [if_pos (Or.inl rfl)]
    clear T hr hg hN
    go_enter Tryd.func19, Tryd.ntmps19
    go_wp2_with ((refine (unhide Hs).mono ?_
                  rintro e w1 ⟨rfl, hw1⟩
                  subst hw1
                  clear Hs))
    refine bodyPost_ret (v := .tuple #[.slice none 0 0, .bool true]) (by simp [results, Tryd.results19, go_sem]) rfl ⟨_, rfl, grl_nil _ _, Below.refl _ _⟩
  · have He : (if m = 0 ∨ m = n then [] else bridgeP Sha.shaOf g 0 m n true) = bridgeP Sha.shaOf g 0 m n true := by
      by_cases e : m = n
      · subst e; rw [if_pos (Or.inr rfl), bridge_end]; rfl
      · rw [if_neg (by omega)]
    rw [He]
    have dz : ((m : Int) == 0) = false := by simp; omega
    have Ho := hide (tbridge_i (S := S) (t := t) hg hN n 0 m true (by omega) hm (dv_zero n) (by omega) w hr T)
    clear T hr hg hN He
    go_enter Tryd.func19, Tryd.ntmps19
    go_wp2_with (first
      | (refine (unhide Hs).mono ?_
         rintro e w1 ⟨rfl, hw1⟩
         subst hw1
         clear Hs)
      | (refine (unhide Ho).mono ?_
         rintro e w2 ⟨v2, rfl, hG2, hb2⟩
         have HG2 := hide (And.intro hG2 hb2)
         clear hG2 hb2))
    refine bodyPost_ret (v := .tuple #[v2, .bool true]) (by simp [results, Tryd.results19, go_sem]) rfl ⟨_, rfl, unhide HG2⟩
set_option maxRecDepth 100000 in
set_option maxHeartbeats 1000000 in
theorem tbridge_no {S : Set_} {t : Nat} {g : Nat → Bs} {N : Nat} (hN : N ≤ 101) (w : World) (T : TreeAt S w t g N) (m n : Int) (hb : -9223372036854775808 ≤ n ∧ n ≤ 9223372036854775807) (hbm : -9223372036854775808 ≤ m ∧ m ≤ 9223372036854775807) (hn : m < 0 ∨ n < m ∨ (N : Int) < n) : NoL w 19 #[.pointer (some ⟨t, 0, none⟩), .int .i64 m, .int .i64 n] := by
  obtain ⟨b1, b2⟩ := hb
  obtain ⟨b3, b4⟩ := hbm
  have Hs := hide (tsize_c w T hN)
  by_cases h0 : m < 0
  · have d0 : decide (m < 0) = true := by simp; omega
    clear T
    go_enter Tryd.func19, Tryd.ntmps19
    go_wp2
    refine bodyPost_ret (v := .tuple #[.slice none 0 0, .bool false]) (by simp [results, Tryd.results19, go_sem]) rfl ⟨rfl, rfl⟩
  · have d0 : decide (m < 0) = false := by simp; omega
    by_cases h1 : n < m
    · have d1 : decide (n < m) = true := by simp; omega
      clear T
      go_enter Tryd.func19, Tryd.ntmps19
      go_wp2
      refine bodyPost_ret (v := .tuple #[.slice none 0 0, .bool false]) (by simp [results, Tryd.results19, go_sem]) rfl ⟨rfl, rfl⟩
    · have d1 : decide (n < m) = false := by simp; omega
      have d2 : decide ((N : Int) < n) = true := by simp; omega
      clear T
      go_enter Tryd.func19, Tryd.ntmps19
      go_wp2_with ((refine (unhide Hs).mono ?_
                    rintro e w1 ⟨rfl, hw1⟩
                    subst hw1
                    clear Hs))
      refine bodyPost_ret (v := .tuple #[.slice none 0 0, .bool false]) (by simp [results, Tryd.results19, go_sem]) rfl ⟨rfl, rfl⟩
end Go.Proofs.YtmhlafhbdpeglaaDoor
