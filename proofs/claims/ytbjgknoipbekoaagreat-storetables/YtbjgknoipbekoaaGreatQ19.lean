/-
  The walk of the landed store's pairs.keys.
  The walks of the landed store's readNumber, addPart, isGood, areGood, inBytes.
  The walk of the landed store's cutPart.
-/
import Derived.Test.YtbjgknoipbekoaaGreatQ18
import Derived.Deep.Cut
import Derived.Test.YtbjgknoipbekoaaGreatQ3
import Derived.BigRegion
import Derived.Deep.RegionLaw
import Derived.BigQuiet
namespace Go.Proofs.YtbjgknoipbekoaaGreat
open Go.RowKit Go.MapKept
/-- slices.Sort of strings of the call's own. -/
theorem sort_c (w : World) (B : Nat) (v : Value) (ss : List Bs) (h : OwnS w B v ss) (hl : ss.length ≤ 1000000) : Calls Tryz.prog 76 #[v] w fun e w' => e = .returned (.tuple #[]) ∧ OwnS w' B v (ss.mergeSort fun x y => decide (x ≤ y)) ∧ w.grownBy w' v.ownBlock := by
  have hlen : (ss.map ks).length = ss.length := List.length_map _
  have h' : w.ownsRow B 9 1 v ss.length (ss.map encStr) := by
    have h0 : w.ownsRow B 9 1 v (ss.map ks).length (ss.map ks) := h
    rw [hlen] at h0
    exact h0
  rcases h'.2 with ⟨hnil, hn⟩ | ⟨g, cap, cur, rfl, hbase, hb, h1, h2, h3, h4⟩
  · obtain rfl : ss = [] := by simpa using hn
    subst hnil
    refine (Tryz.slices_Sort_string_none none 0 w).mono ?_
    rintro e w' ⟨rfl, rfl⟩
    exact ⟨rfl, by simpa using h, World.grownBy.refl _ _⟩
  · refine (Tryz.slices_Sort_string g 0 cap ss w (holds_of_block hb (by simpa using h4)) (Array.getElem?_eq_some_iff.1 hb).1 (by omega)).mono ?_
    rintro e w' ⟨rfl, n, os, rfl⟩
    have hls : (ss.mergeSort fun x y => decide (x ≤ y)).length = ss.length := by simp
    refine ⟨rfl, ?_, grownBy_sorted _⟩
    have := ownsRow_sorted (n := n) (os := os) hls hbase hb h1 h2 h3
    unfold OwnS OwnV
    rw [List.length_map, hls]
    exact this
theorem own_ne_iter {w : World} {B r c0 since : Nat} {m : Option Nat} {seen : Array Nat} {v : Value} {cs : List Value} {e : TypeId} (h : OwnV e w B v cs) (hr : w.heap[r]? = some (.mapIter m since seen c0)) : v.ownBlock ≠ some r := fun e1 => by
  rcases h.2 with ⟨hnil, _⟩ | ⟨g, cap, cur, rfl, _, hb, _⟩
  · subst hnil
    simp [Value.ownBlock] at e1
  · simp only [Value.ownBlock, Option.some.injEq] at e1
    rw [e1, hr] at hb
    cases hb
set_option maxRecDepth 100000 in
set_option maxHeartbeats 4000000 in
theorem pkeys_c {V : Set_} {w : World} {B : Nat} {ps : List (Bs × Bs)} (h : SMAt V w B (getP ps)) (hs : SortedP ps) (hl : ps.length ≤ 1000000) (pre : ByteArray) :
    Calls Tryz.prog 52 #[.map (some B), .string pre] w fun e w' => ∃ v, e = .returned v ∧ OwnS w' w.heap.size v (keysP ps pre.data.toList) ∧ Below w.heap.size w w' := by
  have hBl := h.lt
  obtain ⟨es, clock, hE, w1, hrun, hR1, hb1⟩ := range_s h
  have HE := hide hE
  have HS := hide hs
  obtain ⟨P, hP⟩ : ∃ P : Bs, pre.data.toList = P := ⟨_, rfl⟩
  have HP := hide hP
  have HR1 := hide hR1
  have HB1 := hide hb1
  have HBL := hide hBl
  rw [hP]
  clear h hE hs hR1 hb1 hP hBl
  go_enter Tryz.func52, Tryz.ntmps52
  go_wp2
  go_loopw [5] (fun kv wr => ∃ (sp : Option Addr) (n c : Nat) (ss : List Bs) (seen : Array Nat), kv = .slice sp n c ∧ n ≤ 1000000 ∧ Hid (ss.length = n) ∧ Hid (OwnS wr w.heap.size (.slice sp n c) ss) ∧ Hid (RngS wr B w.heap.size es clock seen) ∧ Hid (Got es seen P ss) ∧ Hid (Below w.heap.size w wr)) (fun _ wr => leftIn wr B w.heap.size)
  case atStart => exact ⟨none, 0, 0, [], #[], rfl, by omega, rfl, own_nil _ _ _, unhide HR1, Got.start _ _, unhide HB1⟩
  case round =>
    clear hrun HR1 HB1
    obtain ⟨sp, n, c, ss, seen, rfl, hn, HN, HO, HR, HG, HB⟩ := hrel
    have hlft := (unhide HR).left
    have hst := (unhide HR).st
    rcases (unhide HR).next 0 with ⟨hall, hrun⟩ | ⟨e, he, hsn, w2, hrun, hR2, hA2, hsz2, hlt2, hent⟩
    · have HPm := hide ((unhide HG).perm (unhide HE) (unhide HS) hall)
      have Hso := hide (sort_c wr w.heap.size (.slice sp n c) ss (unhide HO) (by rw [unhide HN]; exact hn))
      clear hall hlft hst
      go_wp2_with (go_at_call 76; refine (unhide Hso).mono ?_
                   rintro e w2 ⟨rfl, ho2, hg2⟩
                   rw [keys_merge (unhide HS) P (unhide HPm)] at ho2
                   have HO2 := hide ho2
                   have HB2 := hide (own_below (unhide HO) hg2 (unhide HB) (unhide HB).size)
                   clear ho2 hg2)
      go_ret
      exact ⟨_, rfl, unhide HO2, unhide HB2⟩
    · obtain ⟨x, b, hkx, _, _⟩ := (unhide HE).each e he
      have HBsz := hide (unhide HB).size
      have HR2 := hide hR2
      have hb2 : Below w.heap.size wr w2 := Aside.below hA2 (unhide HB).size fun k hk => by omega
      have HB2 := hide ((unhide HB).trans hb2)
      have HO2 : Hid (OwnS w2 w.heap.size (.slice sp n c) ss) := OwnV.aside (unhide HO) hA2 fun k hk he => by
        obtain ⟨c0, hit, _⟩ := (unhide HR).it
        exact own_ne_iter (unhide HO) hit (he ▸ hk)
      have hlt3 : leftIn w2 B w.heap.size < leftIn wr B w.heap.size := by rw [hR2.left, hlft]; exact hlt2
      have HLT := hide hlt3
      obtain ⟨sx, hsx⟩ : ∃ y : ByteArray, (⟨x.toArray⟩ : ByteArray) = y := ⟨_, rfl⟩
      have hke : e.key = .string sx := by rw [hkx]; unfold ks; rw [hsx]
      have hxs : sx.data.toList = x := by rw [← hsx]
      rw [hke] at hrun hent
      obtain ⟨ev, hev⟩ : ∃ y, e.val = y := ⟨_, rfl⟩
      rw [hev] at hrun hent
      have Hpf := hide (Tryz.strings_HasPrefix sx pre w2)
      rw [show Lib.hasPrefix sx.data.toList pre.data.toList = P.isPrefixOf x by unfold Lib.hasPrefix; rw [hxs, unhide HP]] at Hpf
      obtain ⟨pf, hpf⟩ : ∃ y, P.isPrefixOf x = y := ⟨_, rfl⟩
      rw [hpf] at Hpf
      cases pf
      · have HG2 := hide ((unhide HG).not hst he hkx hpf)
        clear hA2 hsz2 hlt2 hb2 hlft hst hkx hsx hke hxs hpf hev hR2 hlt3 HG HO HR
        go_wp2_with (go_at_call 75; refine (unhide Hpf).mono ?_; rintro e w3 ⟨rfl, hw⟩; have hw' := hw.symm; subst hw')
        exact ⟨⟨sp, n, c, ss, _, rfl, hn, HN, HO2, HR2, HG2, HB2⟩, unhide HLT⟩
      · have HG2 := hide ((unhide HG).add hst he hkx hpf hsn)
        have hn1 : (ss ++ [x]).length ≤ 1000000 := Nat.le_trans ((unhide HG2).len (unhide HE) (unhide HS)) hl
        rw [List.length_append, unhide HN, List.length_singleton] at hn1
        have hbA : Below w2.heap.size w2 (w2.alloc (.cells #[.string sx] 9)) := (Below.refl _ _).alloc (Nat.le_refl _) _
        have HY : Hid (ValsAt (w2.alloc (.cells #[.string sx] 9)) (.slice (some ⟨w2.heap.size, 0, none⟩) 1 1) [.string sx]) := vals_new w2 [.string sx] 9
        have HOA := hide (OwnV.below (unhide HO2) hbA)
        have HBA := hide ((unhide HB2).trans (hbA.mono (unhide HB2).size))
        have HRA := hide ((unhide HR2).kept (S := none_) (Aside.of_below hbA) (fun h => h) (fun h => h))
        have HXK : Hid (ks x = .string sx) := by show _ = _; unfold ks; rw [hsx]
        clear hA2 hsz2 hlt2 hb2 hlft hst hkx hsx hke hxs hpf hev hR2 hlt3 hbA HG HO HR
        go_wp2_with (first
          | (go_at_call 75; refine (unhide Hpf).mono ?_; rintro e w3 ⟨rfl, hw⟩; have hw' := hw.symm; subst hw')
          | (at_builtin; refine wpList_append_vals Est rfl _ _ rfl w.heap.size (.slice sp n c) (.slice (some ⟨w2.heap.size, 0, none⟩) 1 1) (ss.map ks) [.string sx] rfl (unhide HOA) rfl (unhide HY) (by simp [Value.oneCell']) (unhide HBA).size (by rw [List.length_map, unhide HN]; simp; omega) ?_
             intro v3 w3 ho3 hg3 hor3
             obtain ⟨s3, c3, e3⟩ := ho3.form
             rw [List.length_append, List.length_map, unhide HN, List.length_singleton] at e3
             subst e3
             have HO3 : Hid (OwnS w3 w.heap.size (.slice s3 (n + 1) c3) (ss ++ [x])) := by
               show OwnV _ _ _ _ _
               rw [List.map_append, List.map_singleton, unhide HXK]
               exact ho3
             have ha3 : Aside (fun k => (Value.slice sp n c).ownBlock = some k) (w2.alloc (.cells #[.string sx] 9)) w3 := Aside.of_grown hg3 fun _ h => h
             have HR3 := hide ((unhide HRA).kept ha3 (fun hk => by
               have := (World.ownsRow.lt (unhide HOA) _ hk).1
               have := unhide HBL
               omega) (fun hk => by
               obtain ⟨c0, hit, _⟩ := (unhide HRA).it
               exact own_ne_iter (unhide HOA) hit hk))
             have HB3 := hide (own_below (unhide HOA) hg3 (unhide HBA) (unhide HBA).size)
             clear ho3 hg3 hor3 ha3))
        refine ⟨⟨s3, n + 1, c3, ss ++ [x], _, rfl, hn1, ?_, HO3, HR3, HG2, HB3⟩, ?_⟩
        · show _ = _; rw [List.length_append, unhide HN]; rfl
        · have h1 := (unhide HR3).left
          have h2 := (unhide HR2).left
          rw [h1, ← h2]
          exact unhide HLT
end Go.Proofs.YtbjgknoipbekoaaGreat
namespace Go.Proofs.YtbjgknoipbekoaaGreat
open Go.RowKit
set_option maxRecDepth 100000 in
set_option maxHeartbeats 1000000 in
theorem snum_s (w : World) (x : Value) (b : Bs) (hx : BytesAt w x b) (hl : b.length ≤ 4) : Calls Tryz.prog 80 #[x] w fun e w' => e = .returned (.int .i64 (numB b : Int)) ∧ w' = w := by
  obtain ⟨sp, c, rfl, _, _, hc⟩ := bytes_open hx
  obtain ⟨N, hN⟩ : ∃ N, b.length = N := ⟨_, rfl⟩
  rw [hN] at hc ⊢
  have H1 := hide hc
  have HN := hide hN
  have hN6 : N ≤ 4 := by omega
  have HS := hide (fun i => num_small4 b i hl)
  obtain ⟨ANS, hA⟩ : ∃ y, numB b = y := ⟨_, rfl⟩
  rw [hA]
  have HA := hide hA
  clear hc hx hN hl hA
  go_enter Tryz.func80, Tryz.ntmps80
  go_wp2
  go_loopw [3, 5, 8] (fun nn _ ii wr => ∃ i m : Nat, i ≤ N ∧ m < 4294967296 ∧ nn = .int .i64 (m : Int) ∧ ii = .int .i64 (i : Int) ∧ wr.heap = w.heap ∧ Hid (m = numB (b.take i)) ∧ Hid (wr = w)) (fun _ _ ii _ => N - (intOf ii).toNat)
  case atStart => exact ⟨0, 0, by omega, by omega, rfl, rfl, rfl, rfl, rfl⟩
  case round =>
    obtain ⟨i, m, hi, hm, rfl, rfl, hh, Hm, Hb⟩ := hrel
    by_cases hlt : i < N
    · have hnb : b ≠ [] := by intro e; have := unhide HN; rw [e] at this; simp at this; omega
      obtain ⟨bb, oo, rfl, _, hcell⟩ := unhide H1 hnb
      have c1 : wr.cell? ⟨bb, oo + i, none⟩ = some (.int .u8 ((b.getD i 0).toNat : Int)) := by rw [← hcell i hlt]; unfold World.cell?; rw [hh]
      have hnx := num_take (b := b) (i := i) (by have := unhide HN; omega)
      have hsm := unhide HS (i + 1)
      rw [hnx, ← unhide Hm] at hsm
      have hlt256 := (b.getD i 0).toNat_lt
      obtain ⟨p, hp⟩ : ∃ p, (b.getD i 0).toNat = p := ⟨_, rfl⟩
      rw [hp] at c1 hnx hsm hlt256
      obtain ⟨m1, hm1⟩ : ∃ m1, m * 256 = m1 := ⟨_, rfl⟩
      obtain ⟨m2, hm2⟩ : ∃ m2, 256 * m + p = m2 := ⟨_, rfl⟩
      have e1 : (m : Int) * 256 = (m1 : Int) := by omega
      have b1 : m1 < 4294967296 := by omega
      have e2 : bits .or .i64 (m1 : Int) (p : Int) = (m2 : Int) := by
        rw [i64_or_nat m1 p b1 (by omega), ← hm1, or_byte m p hlt256, hm2]
      have b2 : m2 < 4294967296 := by omega
      have Hm2 : Hid (m2 = numB (b.take (i + 1))) := by show _ = _; rw [hnx, ← unhide Hm, hm2]
      have f1 : decide ((i : Int) < (N : Int)) = true := by simp; omega
      have f1n : decide (i < N) = true := by simp; omega
      have j0 : (0 : Int) ≤ (i : Int) := by omega
      have j1 : (i : Int) < (N : Int) := by omega
      clear hnb hcell hnx hsm hp hm1 hm2 Hm
      go_wp2
      refine ⟨⟨i + 1, m2, by omega, b2, ?_, ?_, hh, Hm2, Hb⟩, ?_⟩
      · simp
      · simp
      · simp [intOf]; omega
    · obtain rfl : i = N := by omega
      have f1 : decide ((i : Int) < (i : Int)) = false := by simp
      obtain rfl : m = ANS := by rw [unhide Hm, ← unhide HA, List.take_of_length_le (by have := unhide HN; omega)]
      clear Hm
      go_wp2
      go_ret
      exact ⟨rfl, unhide Hb⟩
set_option maxRecDepth 100000 in
set_option maxHeartbeats 2000000 in
theorem saddp_c (w0 w : World) (v x : Value) (l p : Bs) (size : Nat) (hr : Row w0 w v l) (hx : BytesAt w0 x p) (hs1 : 1 ≤ size) (hs : size ≤ 8) (hp : p.length ≤ 10000000) (hl : l.length ≤ 100000000) :
    Calls Tryz.prog 70 #[v, .int .i64 (size : Int), x] w fun e w' => ∃ v', e = .returned v' ∧ Row w0 w' v' (l ++ (bigB p.length size ++ p)) ∧ Gw w v w' v' := by
  have HX0 := hide hx
  obtain ⟨sx, cx, rfl, _⟩ := bytes_open hx
  obtain ⟨sv, cv, rfl⟩ := hr.own.form
  obtain ⟨P, hP⟩ : ∃ P, p.length = P := ⟨_, rfl⟩
  have Hadd := hide (saddn_own w0 w _ l (bigB p.length size) size (p.length : Int) hr (bigof_nat _ _) (big_len _ _) (by omega) (by omega) hs1 hs (by omega))
  have HL : Hid ((l ++ bigB p.length size).length + p.length ≤ 1073741824) := by show _ ≤ _; rw [List.length_append, big_len]; omega
  obtain ⟨BG, hBG⟩ : ∃ y, bigB p.length size = y := ⟨_, rfl⟩
  rw [hBG] at Hadd HL
  have HE : Hid ((l ++ BG) ++ p = l ++ (bigB p.length size ++ p)) := by show _ = _; rw [hBG, List.append_assoc]
  obtain ⟨RES, hRES⟩ : ∃ y, l ++ (bigB p.length size ++ p) = y := ⟨_, rfl⟩
  rw [hRES] at HE ⊢
  obtain ⟨LB, hLB⟩ : ∃ y, (l ++ BG).length = y := ⟨_, rfl⟩
  have HLB := hide hLB
  rw [hP] at Hadd HX0 ⊢
  clear hx hr hP hp hRES hBG hLB
  go_enter Tryz.func70, Tryz.ntmps70
  go_wp2_with (first
    | (go_at_call 89; refine (unhide Hadd).mono ?_
       rintro e w2 ⟨v2, rfl, hR2, hG2⟩
       obtain ⟨s2, c2, e2⟩ := hR2.own.form
       rw [unhide HLB] at e2
       subst e2
       have HR2 := hide hR2
       have HX2 := hide ((unhide HX0).below hR2.b)
       have HG2 := hide hG2
       clear hR2 hG2)
    | (at_builtin; refine wpList_append_grew rfl _ _ rfl (.slice s2 LB c2) (.slice sx P cx) (l ++ BG) p rfl (unhide HR2) rfl (unhide HX2) (unhide HL) ?_
       intro v3 w3 hR3 hG3
       rw [unhide HE] at hR3
       have HR3 := hide hR3
       have HG3 := hide ((unhide HG2).trans (Gw.of hG3))
       clear hR3 hG3))
  go_ret
  exact ⟨_, rfl, unhide HR3, unhide HG3⟩
/-- The key's and the value's lengths are right. -/
def goodN (k v : Nat) (g : Bool) : Bool := decide (1 ≤ k) && decide (k ≤ 32) && (g || decide (v ≤ 8192))
theorem good_right (c : Ch) : goodN c.key.length c.val.length c.gone = decide (rightC c) := by
  rw [Bool.eq_iff_iff, decide_eq_true_iff]
  unfold goodN rightC
  simp only [Bool.and_eq_true, Bool.or_eq_true, decide_eq_true_eq]
  cases c.gone <;> simp <;> omega
set_option maxRecDepth 100000 in
set_option maxHeartbeats 2000000 in
theorem cgood_c (w : World) (s1 s2 : Option Addr) (k v c1 c2 : Nat) (g : Bool) : Calls Tryz.prog 69 #[.agg #[.slice s1 k c1, .slice s2 v c2, .bool g]] w fun e w' => e = .returned (.bool (goodN k v g)) ∧ Below w.heap.size w w' := by
  have HB : Hid (Below w.heap.size w (w.alloc (.cells #[.slice s1 k c1, .slice s2 v c2, .bool g] 72))) := (Below.refl _ _).alloc (Nat.le_refl _) _
  by_cases h1 : k < 1
  · have d1 : decide ((k : Int) < 1) = true := by simp; omega
    have d1n : decide (k < 1) = true := by simp; omega
    have e : goodN k v g = false := by unfold goodN; rw [decide_eq_false (show ¬ 1 ≤ k by omega)]; rfl
    rw [e]
    go_enter Tryz.func69, Tryz.ntmps69
    go_wp2
    go_ret
    exact ⟨rfl, unhide HB⟩
  · have d1 : decide ((k : Int) < 1) = false := by simp; omega
    have d1n : decide (k < 1) = false := by simp; omega
    by_cases h2 : 32 < k
    · have d2 : decide ((32 : Int) < (k : Int)) = true := by simp; omega
      have d2n : decide (32 < k) = true := by simp; omega
      have e : goodN k v g = false := by unfold goodN; rw [decide_eq_false (show ¬ k ≤ 32 by omega)]; simp
      rw [e]
      go_enter Tryz.func69, Tryz.ntmps69
      go_wp2
      go_ret
      exact ⟨rfl, unhide HB⟩
    · have d2 : decide ((32 : Int) < (k : Int)) = false := by simp; omega
      have d2n : decide (32 < k) = false := by simp; omega
      have e : goodN k v g = (g || decide (v ≤ 8192)) := by unfold goodN; rw [decide_eq_true (show 1 ≤ k by omega), decide_eq_true (show k ≤ 32 by omega)]; rfl
      rw [e]
      cases g
      · by_cases h3 : v ≤ 8192
        · have d3 : decide ((v : Int) ≤ 8192) = true := by simp; omega
          have d3n : decide (v ≤ 8192) = true := by simp; omega
          rw [d3n]
          go_enter Tryz.func69, Tryz.ntmps69
          go_wp2
          go_ret
          exact ⟨rfl, unhide HB⟩
        · have d3 : decide ((v : Int) ≤ 8192) = false := by simp; omega
          have d3n : decide (v ≤ 8192) = false := by simp; omega
          rw [d3n]
          go_enter Tryz.func69, Tryz.ntmps69
          go_wp2
          go_ret
          exact ⟨rfl, unhide HB⟩
      · go_enter Tryz.func69, Tryz.ntmps69
        go_wp2
        go_ret
        exact ⟨rfl, unhide HB⟩
theorem cells_new3 (w : World) (a b c : Value) (t : TypeId) : (w.alloc (.cells #[a, b, c] t)).cell? ⟨w.heap.size, 0, none⟩ = some a ∧ (w.alloc (.cells #[a, b, c] t)).cell? ⟨w.heap.size, 1, none⟩ = some b ∧ (w.alloc (.cells #[a, b, c] t)).cell? ⟨w.heap.size, 2, none⟩ = some c := by
  have h := (MapKept.heap_alloc w (.cells #[a, b, c] t)).1
  refine ⟨?_, ?_, ?_⟩ <;> (unfold World.cell?; rw [h]; rfl)
set_option maxRecDepth 100000 in
set_option maxHeartbeats 4000000 in
theorem sgood_c (K : Set_) (w : World) (x : Value) (l : List Ch) (h : ChsAt K w x l) (hl : l.length ≤ 1000000) : Calls Tryz.prog 45 #[x] w fun e w' => e = .returned (.bool (decide (RightL l))) ∧ Below w.heap.size w w' := by
  obtain ⟨sp, c, rfl, _⟩ := h.form
  obtain ⟨n, hn⟩ : ∃ n, l.length = n := ⟨_, rfl⟩
  rw [hn] at h hl ⊢
  have H := hide h
  have HN := hide hn
  obtain ⟨ANS, hA⟩ : ∃ y, decide (RightL l) = y := ⟨_, rfl⟩
  rw [hA]
  have HA := hide hA
  clear h hn hA
  go_enter Tryz.func45, Tryz.ntmps45
  go_wp2
  go_loopw [7] (fun ii wr => ∃ i : Nat, i ≤ n ∧ ii = .int .i64 (i : Int) ∧ Hid (∀ (j : Nat) (c : Ch), j < i → l[j]? = some c → rightC c) ∧ Hid (Below w.heap.size w wr)) (fun ii _ => n - (intOf ii).toNat)
  case atStart => exact ⟨0, by omega, rfl, fun j op hj => absurd hj (by omega), Below.refl _ _⟩
  case round =>
    obtain ⟨i, hi, rfl, Hs, Hb⟩ := hrel
    by_cases hlt : i < n
    · obtain ⟨ch, g, o, s1, c1, s2, c2, hop, rfl, _, hgl, h3⟩ := ((unhide H).below (unhide Hb)).one (i := i) (by have := unhide HN; omega)
      have f1 : decide ((i : Int) < (n : Int)) = true := by simp; omega
      have f1n : decide (i < n) = true := by simp; omega
      have j0 : (0 : Int) ≤ (i : Int) := by omega
      have j1 : (i : Int) < (n : Int) := by omega
      have k0 := h3.c0
      have k1 := h3.c1
      have k2 := h3.c2
      have HG := hide (good_right ch)
      obtain ⟨KN, hKN⟩ : ∃ y, ch.key.length = y := ⟨_, rfl⟩
      obtain ⟨VN, hVN⟩ : ∃ y, ch.val.length = y := ⟨_, rfl⟩
      obtain ⟨gb, hgb⟩ : ∃ y, ch.gone = y := ⟨_, rfl⟩
      rw [hKN] at k0 HG
      rw [hVN] at k1 HG
      rw [hgb] at k2 HG
      have HOP := hide hop
      have HB1 : Hid (Below w.heap.size w (wr.alloc (.cells #[.slice s1 KN c1, .slice s2 VN c2, .bool gb] 72))) := (unhide Hb).alloc (unhide Hb).size _
      have Hc := hide (fun w' => cgood_c w' s1 s2 KN VN c1 c2 gb)
      obtain ⟨gd, hgd⟩ : ∃ y, goodN KN VN gb = y := ⟨_, rfl⟩
      rw [hgd] at HG Hc
      obtain ⟨w1, hw1⟩ : ∃ y, wr.alloc (.cells #[.slice s1 KN c1, .slice s2 VN c2, .bool gb] 72) = y := ⟨_, rfl⟩
      obtain ⟨m0, m1, m2⟩ := cells_new3 wr (.slice s1 KN c1) (.slice s2 VN c2) (.bool gb) 72
      rw [hw1] at HB1 m0 m1 m2
      clear h3 hop hKN hVN hgb hgd
      cases gd
      · obtain rfl : false = ANS := by
          rw [← unhide HA]
          symm
          rw [decide_eq_false_iff_not]
          intro hr
          have h1 := hr ch (List.mem_of_getElem? (unhide HOP))
          have h2 := unhide HG
          rw [decide_eq_true h1] at h2
          cases h2
        go_wp2_with (go_at_call 69; refine (unhide Hc _).mono ?_
                     rintro e w2 ⟨rfl, hb2⟩
                     have HB2 := hide ((unhide HB1).trans (hb2.mono (unhide HB1).size))
                     clear hb2)
        go_ret
        exact ⟨rfl, unhide HB2⟩
      · go_wp2_with (go_at_call 69; refine (unhide Hc _).mono ?_
                     rintro e w2 ⟨rfl, hb2⟩
                     have HB2 := hide ((unhide HB1).trans (hb2.mono (unhide HB1).size))
                     clear hb2)
        refine ⟨⟨i + 1, by omega, ?_, fun j c hj hc => ?_, HB2⟩, ?_⟩
        · simp
        · by_cases hji : j < i
          · exact unhide Hs j c hji hc
          · obtain rfl : j = i := by omega
            rw [unhide HOP] at hc
            cases hc
            exact of_decide_eq_true (unhide HG).symm
        · simp [intOf]; omega
    · obtain rfl : i = n := by omega
      have f1 : decide ((i : Int) < (i : Int)) = false := by simp
      obtain rfl : true = ANS := by
        rw [← unhide HA]
        symm
        rw [decide_eq_true_iff]
        intro ch hch
        obtain ⟨j, hj⟩ := List.getElem?_of_mem hch
        exact unhide Hs j ch (by have := (List.getElem?_eq_some_iff.1 hj).1; have := unhide HN; omega) hj
      go_wp2
      go_ret
      exact ⟨rfl, unhide Hb⟩
end Go.Proofs.YtbjgknoipbekoaaGreat
namespace Go.Proofs.YtbjgknoipbekoaaGreat
open Go.RowKit
/-- A part behind its length, and what is left. -/
def cutP (b : Bs) (size : Nat) : Option (Bs × Bs) := if b.length < size then none else if (b.drop size).length < numB (b.take size) then none else some ((b.drop size).take (numB (b.take size)), (b.drop size).drop (numB (b.take size)))
theorem cut_own {sp : Option Addr} {n c f m d k : Nat} (h : (Value.slice (cutAt sp c f) m d).ownBlock = some k) : (Value.slice sp n c).ownBlock = some k := by
  unfold cutAt at h
  cases sp with
  | none => split at h <;> simp [Value.ownBlock] at h
  | some a =>
    split at h
    · simpa [Value.ownBlock] using h
    · simp only [Value.ownBlock, Option.map_some, Addr.add] at h ⊢
      split at h <;> exact h
theorem ElS.part {K : Set_} {w : World} {sp : Option Addr} {c : Nat} {b : Bs} (h : ElS K w (.slice sp b.length c) b) (f e : Nat) (hf : f ≤ e) (he : e ≤ b.length) : ElS K w (.slice (cutAt sp c f) (e - f) (c - f)) ((b.drop f).take (e - f)) := by
  refine ⟨bytes_part h.at_ f e hf he, fun hne k hk => h.blk ?_ k (cut_own hk)⟩
  intro hb
  rw [hb] at hne
  simp at hne
theorem ElS.front {K : Set_} {w : World} {sp : Option Addr} {c : Nat} {b : Bs} (h : ElS K w (.slice sp b.length c) b) (e : Nat) (he : e ≤ b.length) : ElS K w (.slice sp e c) (b.take e) := by
  have h1 := h.part 0 e (by omega) he
  have h2 : cutAt sp c 0 = sp := by
    unfold cutAt
    split
    · rfl
    · cases sp <;> simp [Addr.add]
  rw [h2, Nat.sub_zero, Nat.sub_zero, List.drop_zero] at h1
  exact h1
theorem ElS.rest {K : Set_} {w : World} {sp : Option Addr} {c : Nat} {b : Bs} (h : ElS K w (.slice sp b.length c) b) (f : Nat) (hf : f ≤ b.length) : ElS K w (.slice (cutAt sp c f) (b.length - f) (c - f)) (b.drop f) := by
  have h1 := h.part f b.length hf (Nat.le_refl _)
  rw [List.take_of_length_le (by rw [List.length_drop]; omega)] at h1
  exact h1
theorem ElS.drewN {K : Set_} {w : World} {v : Value} {b : Bs} (h : ElS K w v b) (q : Nat) : ElS K (w.drewN q) v b := h.aside (S := none_) (Aside.of_below (below_drewNb (Below.refl _ _) q)) fun _ h => h.elim
theorem drewN_add (w : World) (a b : Nat) : (w.drewN a).drewN b = w.drewN (a + b) := by simp [World.drewN, Nat.add_assoc]
theorem quiet_snum {w : World} {x : Value} {b : Bs} {k : Nat} (hx : BytesAt w x b) (hl : b.length ≤ 4) (hk : numB b = k) (n : Nat) : Calls Tryz.prog 80 #[x] (w.drewN n) fun e w' => e = .returned (.int .i64 (k : Int)) ∧ ∃ q, w' = (w.drewN n).drewN q := by
  subst hk
  refine (snum_s (w.drewN n) x b (hx.below (below_drewNb (Below.refl _ _) n)) hl).mono ?_
  rintro e w' ⟨rfl, rfl⟩
  exact ⟨rfl, 0, rfl⟩
set_option maxRecDepth 100000 in
set_option maxHeartbeats 4000000 in
theorem scutp_c {K : Set_} {w : World} {x : Value} {b : Bs} (size : Nat) (hx : ElS K w x b) (h1 : 1 ≤ size) (h4 : size ≤ 4) (hb : b.length ≤ 1000000) :
    Calls Tryz.prog 103 #[x, .int .i64 (size : Int)] w fun e w' => (∃ pv rv, e = .returned (.tuple #[pv, rv, .bool (cutP b size).isSome]) ∧ ElS K w' pv (((cutP b size).getD ([], [])).1) ∧ ElS K w' rv (((cutP b size).getD ([], [])).2)) ∧ ∃ q, w' = w.drewN q := by
  obtain ⟨sp, c, rfl, hlc, hn, _⟩ := bytes_open hx.at_
  by_cases hs : b.length < size
  · have e0 : cutP b size = none := if_pos hs
    rw [e0]
    obtain ⟨N, hN⟩ : ∃ N, b.length = N := ⟨_, rfl⟩
    rw [hN] at hs ⊢
    have d1 : decide ((N : Int) < (size : Int)) = true := by simp; omega
    have d1n : decide (N < size) = true := by simp; omega
    have HE : Hid (ElS K w (.slice none 0 0) []) := ElS.nil K w
    clear hx hn hN hlc hb e0
    go_enter Tryz.func103, Tryz.ntmps103
    go_wp2
    go_ret3
    exact ⟨⟨_, _, rfl, unhide HE, unhide HE⟩, 0, rfl⟩
  · have H1 := hide (hx.front size (by omega))
    have H2 := hide (hx.rest size (by omega))
    have e0 : cutP b size = if (b.drop size).length < numB (b.take size) then none else some ((b.drop size).take (numB (b.take size)), (b.drop size).drop (numB (b.take size))) := if_neg hs
    have hk4 : (b.take size).length ≤ 4 := by rw [List.length_take]; omega
    have hm4 := num_small4 (b.take size) 4 hk4
    rw [List.take_of_length_le hk4] at hm4
    obtain ⟨m, hm⟩ : ∃ m, numB (b.take size) = m := ⟨_, rfl⟩
    have Hq := hide (fun n => quiet_snum (k := m) (unhide H1).at_ hk4 hm n)
    have hrl : (b.drop size).length = b.length - size := List.length_drop
    rw [hm] at e0 hm4
    have s1 : ∀ w, (Instr.sliceAt 23 (.slice sp b.length c) none (some (.int .i64 (size : Int))) none).run Tryz.prog w = .ok (.slice sp size c) w := fun w => slice_front sp b.length c size (by omega) w
    have s2 : ∀ w, (Instr.sliceAt 23 (.slice sp b.length c) (some (.int .i64 (size : Int))) none none).run Tryz.prog w = .ok (.slice (cutAt sp c size) (b.length - size) (c - size)) w := fun w => slice_rest sp b.length c size (by omega) w
    have d1 : decide ((b.length : Int) < (size : Int)) = false := by simp; omega
    have d1n : decide (b.length < size) = false := by simp; omega
    obtain ⟨sr, hsr⟩ : ∃ y, cutAt sp c size = y := ⟨_, rfl⟩
    obtain ⟨RL, hRL⟩ : ∃ y, b.length - size = y := ⟨_, rfl⟩
    obtain ⟨cr, hcr⟩ : ∃ y, c - size = y := ⟨_, rfl⟩
    obtain ⟨r, hr⟩ : ∃ y, b.drop size = y := ⟨_, rfl⟩
    obtain ⟨N, hN⟩ : ∃ N, b.length = N := ⟨_, rfl⟩
    rw [hsr, hRL, hcr] at s2 H2
    rw [hr] at e0 H2 hrl
    rw [hRL] at hrl
    have hcrl : RL ≤ cr := by omega
    have hRb : RL ≤ 1000000 := by omega
    rw [hN] at d1 d1n s1 s2 ⊢
    by_cases hlt : RL < m
    · have e1 : cutP b size = none := by rw [e0, hrl, if_pos hlt]
      rw [e1]
      have d2 : decide ((RL : Int) < (m : Int)) = true := by simp; omega
      have d2n : decide (RL < m) = true := by simp; omega
      clear hx hn hN hlc hb e0 e1 hs hk4 hm hr hcr hRL hsr hrl H1 H2
      go_enter Tryz.func103, Tryz.ntmps103
      go_wp2
      go_big_quiet (first | (go_at_call 80; refine Calls.quiet_of (unhide Hq _)) | fail)
      have HE : Hid (ElS K (w.drewN nq) (.slice none 0 0) []) := ElS.nil K _
      go_wp2
      go_ret3
      exact ⟨⟨_, _, rfl, unhide HE, unhide HE⟩, _, rfl⟩
    · have e1 : cutP b size = some (r.take m, r.drop m) := by rw [e0, hrl, if_neg hlt]
      rw [e1]
      have d2 : decide ((RL : Int) < (m : Int)) = false := by simp; omega
      have d2n : decide (RL < m) = false := by simp; omega
      have H2' := unhide H2
      rw [← hrl] at H2'
      have HP := hide (H2'.front m (by omega))
      have HQ := hide (H2'.rest m (by omega))
      rw [hrl] at HQ
      have s3 : ∀ w, (Instr.sliceAt 23 (.slice sr RL cr) none (some (.int .i64 (m : Int))) none).run Tryz.prog w = .ok (.slice sr m cr) w := fun w => slice_front sr RL cr m (by omega) w
      have s4 : ∀ w, (Instr.sliceAt 23 (.slice sr RL cr) (some (.int .i64 (m : Int))) none none).run Tryz.prog w = .ok (.slice (cutAt sr cr m) (RL - m) (cr - m)) w := fun w => slice_rest sr RL cr m (by omega) w
      obtain ⟨sq, hsq⟩ : ∃ y, cutAt sr cr m = y := ⟨_, rfl⟩
      obtain ⟨QL, hQL⟩ : ∃ y, RL - m = y := ⟨_, rfl⟩
      obtain ⟨cq, hcq⟩ : ∃ y, cr - m = y := ⟨_, rfl⟩
      rw [hsq, hQL, hcq] at s4 HQ
      clear hx hn hN hlc hb e0 e1 hs hk4 hm hr hcr hRL hsr hrl H1 H2 H2' hsq hQL hcq
      go_enter Tryz.func103, Tryz.ntmps103
      go_wp2
      go_big_quiet (first | (go_at_call 80; refine Calls.quiet_of (unhide Hq _)) | fail)
      go_wp2
      go_big_quiet (fail)
      go_wp2
      go_ret3
      exact ⟨⟨_, _, rfl, ((unhide HP).drewN _).drewN _, ((unhide HQ).drewN _).drewN _⟩, _, drewN_add _ _ _⟩
end Go.Proofs.YtbjgknoipbekoaaGreat
