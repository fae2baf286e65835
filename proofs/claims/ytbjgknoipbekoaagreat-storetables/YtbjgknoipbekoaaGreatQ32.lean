/-
  StoreTables out of the records.
-/
import Derived.Test.YtbjgknoipbekoaaGreatQ29
import Derived.Test.YtbjgknoipbekoaaGreatQ30
import Derived.Test.YtbjgknoipbekoaaGreatQ31
import Derived.Test.YtbjgknoipbekoaaGreatQ25
import Derived.Deep.RegionHeld3
namespace Go.Proofs.YtbjgknoipbekoaaGreat
open Go.RowKit
/-- What Names wants of a store in memory. -/
def NamesOf (SAt : Set_ → Set_ → World → Value → Value → SS → Prop) : Prop := ∀ (S R : Set_) (w : World) (tv t p : Value) (G : SS) (pre : ByteArray) (A : Nat), TabAt w tv t pre A → SAt S R w t p G → Calls Tryz.prog 36 #[tv] w fun e w' => ∃ v, e = .returned v ∧ OwnS w' w.heap.size v ((keysP G.pairs pre.data.toList).map (·.drop pre.size)) ∧ Below w.heap.size w w'
def strA : ByteArray := ⟨#[97, 47]⟩
def strB : ByteArray := ⟨#[98, 47]⟩
/-- A Commit of a few changes, where there is room. -/
theorem tab_commit {u : Nat} {P : List (Bs × Bs)} {l : List Ch} (hl : RightL l) (hne : l ≠ []) (hb : (wrL l).length ≤ 65536) (hu : u + needs (wrL l).length ≤ 199) : refC ⟨199, 1, u, P⟩ l = (⟨199, 1, u + needs (wrL l).length, withP P l⟩, 0) := by
  unfold refC
  rw [if_neg (fun h => h hl), if_neg hne, if_pos ⟨hb, hu⟩]
theorem Tabs.len {P W : List (Bs × Bs)} (h : Tabs P W) : W.length ≤ P.length := by
  have h1 := congrArg List.length h.keys
  rw [List.length_map, List.length_map] at h1
  rw [← h1]
  exact keys_len _ _
section
variable {PAt : Set_ → Set_ → World → Value → PS → Prop} {SAt : Set_ → Set_ → World → Value → Value → SS → Prop} (HP : Plate PAt) (HS : Store PAt SAt) (HN : NamesOf SAt)
include HN in
theorem SysAt.names {n k : Nat} {w0 w : World} {p t tv : Value} {r : RS} {B : Set_} {pre : ByteArray} {A : Nat} (h : SysAt PAt SAt n w0 w p t r k B) (ht : TabAt w tv t pre A) : Calls Tryz.prog 36 #[tv] w fun e w' => ∃ v, e = .returned v ∧ OwnS w' w.heap.size v ((keysP r.pairs pre.data.toList).map (·.drop pre.size)) ∧ Below w.heap.size w w' := by
  obtain ⟨T, s, G, S, R, S2, R2, h1, h2, _⟩ := h
  rw [h2.pairs]
  exact HN _ _ _ _ _ _ _ _ _ ht h1.st
include HS in
theorem SysAt.tget {n k : Nat} {w0 w : World} {p t tv : Value} {r : RS} {B : Set_} {pre : ByteArray} {A : Nat} (h : SysAt PAt SAt n w0 w p t r k B) (ht : TabAt w tv t pre A) (s : ByteArray) (hs : pre.size + s.size ≤ 1000) : Calls Tryz.prog 37 #[tv, .string s] w fun e w' => e = .returned (.tuple #[.int .i64 (getB ((getP r.pairs (pre ++ s).data.toList).getD []) : Int), .bool (decide (((getP r.pairs (pre ++ s).data.toList).getD []).length = 2))]) ∧ Below w.heap.size w w' := by
  obtain ⟨T, G0, G, S, R, S2, R2, h1, h2, _⟩ := h
  rw [h2.pairs]
  refine tget_c ht s (by omega) _ fun w2 x hb hx => ?_
  refine (HS.get x _ (HS.kept h1.st (T := none_) (Aside.of_below hb) fun _ hk => hk.elim) hx (by rw [show (pre ++ s).data.toList.length = pre.size + s.size by rw [← ByteArray.size_append]; rfl]; omega)).mono ?_
  rintro e w' ⟨v, rfl, ho, hb2⟩
  exact ⟨v, rfl, ho.bytes, hb2⟩
include HP HS HN in
set_option maxRecDepth 100000 in
set_option maxHeartbeats 16000000 in
theorem tables_true (w : World) (xn xm xr : Value) (ns : List ByteArray) (ms : List Int) (dr : Int) (raw : Bs) (hn : ValsAt w xn (ns.map .string)) (hm : ValsAt w xm (ms.map (.int .i64))) (hr : BytesAt w xr raw) : Calls Tryz.prog 6 #[xn, xm, .int .i64 dr, xr] w fun e w' => e = .returned (.bool true) ∧ Below w.heap.size w w' := by
  have Han := hide (sanchor_c HP HS w)
  obtain ⟨sn, cn, en⟩ := hn.form
  obtain ⟨sm, cm, em⟩ := hm.form
  obtain ⟨sr, cr, rfl, hdump⟩ := bytes_open hr
  clear hdump
  obtain ⟨N, hN⟩ : ∃ n, ns.length = n := ⟨_, rfl⟩
  obtain ⟨M, hM⟩ : ∃ n, ms.length = n := ⟨_, rfl⟩
  obtain ⟨NR, hNR⟩ : ∃ n, raw.length = n := ⟨_, rfl⟩
  rw [List.length_map, hN] at en
  rw [List.length_map, hM] at em
  subst en
  subst em
  rw [hNR] at hr ⊢
  have HXn := hide hn
  have HXm := hide hm
  have HXr := hide hr
  have HNn := hide hN
  have HNm := hide hM
  have HNr := hide hNR
  clear hn hm hr hN hM hNR
  by_cases g1 : 12 < N
  · have d1 : decide ((12 : Int) < (N : Int)) = true := by simp; omega
    have d1n : decide (12 < N) = true := by simp; omega
    go_enter Tryz.func6, Tryz.ntmps6
    go_wp2_with (go_at_call 7; refine (unhide Han).mono ?_; rintro e w1 ⟨rfl, hb1⟩; have HB1 := hide hb1; clear hb1)
    go_ret
    exact ⟨rfl, unhide HB1⟩
  have d1 : decide ((12 : Int) < (N : Int)) = false := by simp; omega
  have d1n : decide (12 < N) = false := by simp; omega
  by_cases g2 : M < N
  · have d2 : decide ((M : Int) < (N : Int)) = true := by simp; omega
    have d2n : decide (M < N) = true := by simp; omega
    go_enter Tryz.func6, Tryz.ntmps6
    go_wp2_with (go_at_call 7; refine (unhide Han).mono ?_; rintro e w1 ⟨rfl, hb1⟩; have HB1 := hide hb1; clear hb1)
    go_ret
    exact ⟨rfl, unhide HB1⟩
  have d2 : decide ((M : Int) < (N : Int)) = false := by simp; omega
  have d2n : decide (M < N) = false := by simp; omega
  by_cases g3 : 100 < NR
  · have d3 : decide ((100 : Int) < (NR : Int)) = true := by simp; omega
    have d3n : decide (100 < NR) = true := by simp; omega
    go_enter Tryz.func6, Tryz.ntmps6
    go_wp2_with (go_at_call 7; refine (unhide Han).mono ?_; rintro e w1 ⟨rfl, hb1⟩; have HB1 := hide hb1; clear hb1)
    go_ret
    exact ⟨rfl, unhide HB1⟩
  have d3 : decide ((100 : Int) < (NR : Int)) = false := by simp; omega
  have d3n : decide (100 < NR) = false := by simp; omega
  have hN12 : N ≤ 12 := by omega
  have hNM : N ≤ M := by omega
  have hNRb : NR ≤ 100 := by omega
  clear g1 g2 g3
  have Hnew : Hid (∀ w1, Below w.heap.size w w1 → Calls Tryz.prog 9 #[.int .i64 400] w1 fun e w' => ∃ pa, e = .returned (.pointer (some pa)) ∧ ∃ S R, On PAt w w' (.pointer (some pa)) S R (newS 400)) := fun w1 hb => by
    refine (HP.new_yes w1 400 (by omega) (by omega)).mono ?_
    rintro e w' ⟨p1, rfl, S1, R1, q1, q2, q3⟩
    obtain ⟨pa, rfl⟩ := HP.ptr q1
    exact ⟨pa, rfl, S1, R1, q1, fun j hj => Nat.le_trans hb.size (q2 j hj), hb.trans (q3.mono hb.size)⟩
  have Hfi : Hid (∀ w1 p S R, On PAt w w1 p S R (newS 400) → Calls Tryz.prog 10 #[p] w1 fun e w' => ∃ a, e = .returned (.tuple #[.pointer (some a), .int .i64 0]) ∧ ∃ B, SysAt PAt SAt 400 w w' p (.pointer (some a)) ⟨199, 1, 1, []⟩ 1 B) := fun w1 p S R h => by
    refine (SysAt.first HP HS h (by omega) (by omega)).mono ?_
    rintro e w' ⟨a, rfl, B, h1, _⟩
    exact ⟨a, rfl, B, h1⟩
  have eA : (⟨#[97, 47]⟩ : ByteArray) = strA := rfl
  have eB : (⟨#[98, 47]⟩ : ByteArray) = strB := rfl
  have ep : Value.func (.func 32) #[] #[] = putV := rfl
  have eg : Value.func (.func 33) #[] #[] = getV := rfl
  go_enter Tryz.func6, Tryz.ntmps6
  go_upto_region 11 with (first
    | (go_at_call 7; refine (unhide Han).mono ?_; rintro e w1 ⟨rfl, hb1⟩; have HB1 := hide hb1; clear hb1)
    | (go_at_call 9; refine (unhide Hnew _ (unhide HB1)).mono ?_; rintro e w3 ⟨pa, rfl, S3, R3, h3⟩; have HO3 := hide h3; clear h3)
    | (go_at_call 10; refine (unhide Hfi _ _ _ _ (unhide HO3)).mono ?_; rintro e w4 ⟨ta, rfl, B4, h4⟩; have HO4 := hide h4; clear h4))
  go_upto_region 12 with (first
    | (go_at_call_of 31 (Value.string strA); refine (tnew_c w4 ta strA).mono ?_
       rintro e w5 ⟨rfl, ht5, hb5⟩
       have HT5 := hide ht5
       have HO5 := hide ((unhide HO4).below HP HS hb5)
       have HS5 : Hid (w4.heap.size ≤ w5.heap.size) := hb5.size
       clear ht5 hb5)
    | (go_at_call_of 31 (Value.string strB); refine (tnew_c w5 ta strB).mono ?_
       rintro e w6 ⟨rfl, ht6, hb6⟩
       have HT6 := hide ht6
       have HT5b := hide ((unhide HT5).below hb6)
       have HO6 := hide ((unhide HO5).below HP HS hb6)
       clear ht6 hb6)
    | fail)
  obtain ⟨Aa, hAa⟩ : ∃ y, w4.heap.size = y := ⟨_, rfl⟩
  obtain ⟨Ab, hAb⟩ : ∃ y, w5.heap.size = y := ⟨_, rfl⟩
  have HNB : Hid (¬ B4 Aa ∧ ¬ B4 Ab) := ⟨fun h => by have := ((unhide HO4).gen0 Aa h).2; omega, fun h => by have := ((unhide HO4).gen0 Ab h).2; have := unhide HS5; omega⟩
  rw [hAa] at HT5b ⊢
  rw [hAb] at HT6 ⊢
  have HPn : Hid (PrsAt (fun j => ¬ B4 j) w6 (.slice none 0 0) []) := prs_nil _ _
  clear HO3 HO4 HO5 HT5 HS5 hAa hAb HB1 Hnew Hfi Han eA eB ep eg
  go_wp2_with (fail)
  go_loopw [14, 75] (fun ww ii wr => ∃ (i u k NW cw : Nat) (sw : Option Addr) (B : Set_) (P W : List (Bs × Bs)), i ≤ N ∧ u ≤ 1 + 3 * i ∧ k ≤ 1 + 2 * i ∧ ww = .slice sw NW cw ∧ ii = .int .i64 (i : Int) ∧ Hid (W.length = NW) ∧ Hid (SysAt PAt SAt 400 w wr (.pointer (some pa)) (.pointer (some ta)) ⟨199, 1, u, P⟩ k B) ∧ Hid (TabAt wr (.pointer (some ⟨Aa, 0, none⟩)) (.pointer (some ta)) strA Aa) ∧ Hid (TabAt wr (.pointer (some ⟨Ab, 0, none⟩)) (.pointer (some ta)) strB Ab) ∧ Hid (¬ B Aa ∧ ¬ B Ab) ∧ Hid (PrsAt (fun j => ¬ B j) wr (.slice sw NW cw) W) ∧ Hid (Tabs P W)) (fun _ ii _ => N - (intOf ii).toNat)
  case atStart => exact ⟨0, 1, 1, 0, 0, none, B4, [], [], Nat.zero_le _, by omega, by omega, rfl, rfl, rfl, unhide HO6, unhide HT5b, unhide HT6, unhide HNB, unhide HPn, Tabs.nil⟩
  case round =>
    obtain ⟨i, u, k, NW, cw, sw, B, P, W, hi, hu, hk, rfl, rfl, HWl, HO, HTa, HTb, HNBr, HPr, HTs⟩ := hrel
    clear HO6 HT5b HT6 HNB HPn
    by_cases hlt : i < N
    · obtain ⟨s, hs⟩ : ∃ s, ns[i]? = some s := ⟨_, List.getElem?_eq_getElem (by have := unhide HNn; omega)⟩
      obtain ⟨m, hm⟩ : ∃ m, ms[i]? = some m := ⟨_, List.getElem?_eq_getElem (by have := unhide HNm; omega)⟩
      have f1 : decide ((i : Int) < (N : Int)) = true := by simp; omega
      have f1n : decide (i < N) = true := by simp; omega
      have j0 : (0 : Int) ≤ (i : Int) := by omega
      have j1 : (i : Int) < (N : Int) := by omega
      have j2 : (i : Int) < (M : Int) := by omega
      have hvn := unhide HXn
      have hvm := unhide HXm
      have hnne : ns.map Value.string ≠ [] := by intro e; have h9 := congrArg List.length e; rw [List.length_map, unhide HNn] at h9; simp at h9; omega
      have hmne : ms.map (Value.int .i64) ≠ [] := by intro e; have h9 := congrArg List.length e; rw [List.length_map, unhide HNm] at h9; simp at h9; omega
      obtain ⟨gn, on, qn, en, _, _, hcn⟩ := ValsAt.cell hvn hnne
      obtain ⟨gm, om, qm, em, _, _, hcm⟩ := ValsAt.cell hvm hmne
      simp only [Value.slice.injEq] at en em
      obtain ⟨rfl, en1, rfl⟩ := en
      obtain ⟨rfl, em1, rfl⟩ := em
      have k0 := hcn i (by rw [List.length_map, unhide HNn]; exact hlt)
      rw [List.getD_eq_getElem?_getD, List.getElem?_map, hs] at k0
      have k0 : w.cell? ⟨gn, on + i, none⟩ = some (.string s) := k0
      have k1 := hcm i (by rw [List.length_map, unhide HNm]; omega)
      rw [List.getD_eq_getElem?_getD, List.getElem?_map, hm] at k1
      have k1 : w.cell? ⟨gm, om + i, none⟩ = some (.int .i64 m) := k1
      have HGm : Hid (gm < w.heap.size) := World.block_lt_of_cell? _ _ k1
      have HK1 : Hid (∀ w2, Below w.heap.size w w2 → w2.cell? ⟨gm, om + i, none⟩ = some (.int .i64 m)) := fun w2 hb => cell_aside (S := none_) k1 (Aside.of_below hb) fun h => h
      have HBw := hide (unhide HO).b
      have k0 : wr.cell? ⟨gn, on + i, none⟩ = some (.string s) := cell_aside (S := none_) k0 (Aside.of_below (unhide HBw)) fun h => h
      replace k1 := unhide HK1 wr (unhide HBw)
      clear hvn hvm hnne hmne hcn hcm en1 em1 hs hm
      by_cases g1 : 20 < s.size
      · have d4 : decide ((20 : Int) < (s.size : Int)) = true := by simp; omega
        have d4n : decide (20 < s.size) = true := by simp; omega
        clear HO HTa HTb HNBr HPr HTs
        go_wp2_with (fail)
        go_ret
        exact ⟨rfl, unhide HBw⟩
      have d4 : decide ((20 : Int) < (s.size : Int)) = false := by simp; omega
      have d4n : decide (20 < s.size) = false := by simp; omega
      by_cases g2 : m < 0
      · have d5 : decide (m < 0) = true := by simp; omega
        clear HO HTa HTb HNBr HPr HTs
        go_wp2_with (fail)
        go_ret
        exact ⟨rfl, unhide HBw⟩
      have d5 : decide (m < 0) = false := by simp; omega
      by_cases g3 : 65535 < m
      · have d6 : decide ((65535 : Int) < m) = true := by simp; omega
        clear HO HTa HTb HNBr HPr HTs
        go_wp2_with (fail)
        go_ret
        exact ⟨rfl, unhide HBw⟩
      obtain ⟨n, rfl⟩ : ∃ n : Nat, m = (n : Int) := ⟨m.toNat, by omega⟩
      have d6 : decide ((65535 : Int) < (n : Int)) = false := by simp; omega
      have d6n : decide (65535 < n) = false := by simp; omega
      have hs20 : s.size ≤ 20 := by omega
      have hn16 : n < 65536 := by omega
      clear g1 g2 g3
      go_upto_region 20 with (fail)
      have eX := i64_xor_nat n 1 (by omega) (by omega)
      obtain ⟨q, hq⟩ : ∃ q, n ^^^ 1 = q := ⟨_, rfl⟩
      have hq16 : q < 65536 := by rw [← hq]; exact xor_small hn16
      rw [hq] at eX
      have eX : bits .xor .i64 (n : Int) 1 = (q : Int) := eX
      obtain ⟨sb, hsb⟩ : ∃ y, s.data.toList = y := ⟨_, rfl⟩
      have hsbl : sb.length ≤ 20 := by rw [← hsb]; exact hs20
      have eKa : (strA ++ s).data.toList = preA ++ sb := by rw [← hsb]; simp [strA, preA]
      have eKb : (strB ++ s).data.toList = preB ++ sb := by rw [← hsb]; simp [strB, preB]
      have HCa : Hid (∀ w2, Below wr.heap.size wr w2 → Calls Tryz.prog 34 #[.pointer (some ⟨Aa, 0, none⟩), .string s, .int .i64 (n : Int)] w2 fun e w' => ∃ s1 n1 c1 s2 n2 c2, e = .returned (.agg #[.slice s1 n1 c1, .slice s2 n2 c2, .bool false]) ∧ ChV wr.heap.size w' ⟨preA ++ sb, putB n, false⟩ (.slice s1 n1 c1) (.slice s2 n2 c2) ∧ Below w2.heap.size w2 w') := fun w2 hb => by
        refine (tchange_c ((unhide HTa).below hb) s (by have : strA.size = 2 := rfl; omega) n hn16).mono ?_
        rintro e w' ⟨s1, n1, c1, s2, n2, c2, rfl, h1, h2⟩
        rw [eKa] at h1
        exact ⟨s1, n1, c1, s2, n2, c2, rfl, h1.lower hb.size, h2⟩
      have HCb : Hid (∀ w2, Below wr.heap.size wr w2 → Calls Tryz.prog 34 #[.pointer (some ⟨Ab, 0, none⟩), .string s, .int .i64 (q : Int)] w2 fun e w' => ∃ s1 n1 c1 s2 n2 c2, e = .returned (.agg #[.slice s1 n1 c1, .slice s2 n2 c2, .bool false]) ∧ ChV wr.heap.size w' ⟨preB ++ sb, putB q, false⟩ (.slice s1 n1 c1) (.slice s2 n2 c2) ∧ Below w2.heap.size w2 w') := fun w2 hb => by
        refine (tchange_c ((unhide HTb).below hb) s (by have : strB.size = 2 := rfl; omega) q hq16).mono ?_
        rintro e w' ⟨s1, n1, c1, s2, n2, c2, rfl, h1, h2⟩
        rw [eKb] at h1
        exact ⟨s1, n1, c1, s2, n2, c2, rfl, h1.lower hb.size, h2⟩
      obtain ⟨ll, hll⟩ : ∃ y : List Ch, [⟨preA ++ sb, putB n, false⟩, ⟨preB ++ sb, putB q, false⟩] = y := ⟨_, rfl⟩
      have hlen : (wrL ll).length ≤ 60 := by
        rw [← hll]
        have h9 := wrL_two ⟨preA ++ sb, putB n, false⟩ ⟨preB ++ sb, putB q, false⟩
        simp only [List.length_append, putB_len, show preA.length = 2 from rfl, show preB.length = 2 from rfl] at h9
        omega
      have hneed : needs (wrL ll).length ≤ 2 := by unfold needs; omega
      have hrc : refC ⟨199, 1, u, P⟩ ll = (⟨199, 1, u + needs (wrL ll).length, withP P ll⟩, 0) := tab_commit (by
        rw [← hll]
        intro c hc
        simp only [List.mem_cons, List.not_mem_nil, or_false] at hc
        rcases hc with rfl | rfl
        · exact ⟨by simp [preA], by simp only [List.length_append, show preA.length = 2 from rfl]; omega, fun _ => by rw [putB_len]; omega⟩
        · exact ⟨by simp [preB], by simp only [List.length_append, show preB.length = 2 from rfl]; omega, fun _ => by rw [putB_len]; omega⟩) (by rw [← hll]; simp) (by omega) (by omega)
      have HCo : Hid (∀ w2 x, Below wr.heap.size wr w2 → ChsAt (fun j => wr.heap.size ≤ j) w2 x ll → Calls Tryz.prog 14 #[.pointer (some ta), x] w2 fun e w' => e = .returned (.int .i64 0) ∧ SysAt PAt SAt 400 w w' (.pointer (some pa)) (.pointer (some ta)) ⟨199, 1, u + needs (wrL ll).length, withP P ll⟩ (k + 1) (BN B w2 w') ∧ Aside B w2 w') := fun w2 x hb hx => by
        have hcmt := ((unhide HO).below HP HS hb).commit HP HS hx (fun j hj hB => by have h1 := ((unhide HO).gen0 j hB).2; have h2 : wr.heap.size ≤ j := hj; omega) (by rw [← hll]; simp) (by omega) (by show (1 : Nat) < _; omega)
        rw [hrc] at hcmt
        exact hcmt
      have HLL := hide hll
      have HUn : Hid (u + needs (wrL ll).length ≤ 1 + 3 * i + 2) := by show _ ≤ _; omega
      have HSb := hide hsb
      clear hll hrc hneed hlen eKa eKb hsb
      have HBd : Hid (Below wr.heap.size wr wr.drew) := (Below.refl _ _).drew
      go_region_held3 (fun u => u.cell? ⟨gm, om + i, none⟩ = some (.int .i64 (n : Int))) (go_keep)
        ((first
          | (go_at_call_of 34 (Value.pointer (some ⟨Aa, 0, none⟩)); refine (unhide HCa _ (unhide HBd)).mono ?_
             rintro e w2 ⟨s1, n1, c1, s2, n2, c2, rfl, hc2, hb2⟩
             have HC2 := hide hc2
             have HB2 := hide ((unhide HBd).trans (hb2.mono (unhide HBd).size))
             have i1 := unhide HK1 w2 ((unhide HBw).trans ((unhide HB2).mono (unhide HBw).size))
             clear hc2 hb2)
          | (go_at_call_of 34 (Value.pointer (some ⟨Ab, 0, none⟩)); refine (unhide HCb _ (unhide HB2)).mono ?_
             rintro e w3 ⟨s3, n3, c3, s4, n4, c4, rfl, hc3, hb3⟩
             have hb13 := (unhide HB2).trans (hb3.mono (unhide HB2).size)
             have hch := chs_pair (T := 72) ((unhide HC2).below hb3) hc3 hb13.size
             have hb34 : Below w3.heap.size w3 (w3.alloc (.cells #[.slice s1 n1 c1, .slice s2 n2 c2, .bool false, .slice s3 n3 c3, .slice s4 n4 c4, .bool false] 72)) := (Below.refl _ _).alloc (Nat.le_refl _) _
             have HB4 := hide (hb13.trans (hb34.mono hb13.size))
             have j1 := unhide HK1 w3 ((unhide HBw).trans (hb13.mono (unhide HBw).size))
             rw [unhide HLL] at hch
             have HCH4 := hide hch
             clear hc3 hb3 hb13 hb34 hch)
          | (go_at_call 14; refine (unhide HCo _ _ (unhide HB4) (unhide HCH4)).mono ?_
             rintro e w5 ⟨rfl, h5, ha5⟩
             have l1 := cell_aside (unhide HK1 _ ((unhide HBw).trans ((unhide HB4).mono (unhide HBw).size))) ha5 (fun hB => by have h1 := ((unhide HO).gen0 gm hB).1; have h2 := unhide HGm; omega)
             have H5 := hide h5
             have HA5 := hide ha5
             clear h5 ha5)))
      have hAa := lt_of_row (unhide HTa).row
      have hAb := lt_of_row (unhide HTb).row
      have hs4 := (unhide HB4).size
      obtain ⟨B5, hB5⟩ : ∃ y, BN B (w3.alloc (.cells #[.slice s1 n1 c1, .slice s2 n2 c2, .bool false, .slice s3 n3 c3, .slice s4 n4 c4, .bool false] 72)) w5 = y := ⟨_, rfl⟩
      have HNB5 : Hid (¬ B5 Aa ∧ ¬ B5 Ab) := by
        show _ ∧ _
        rw [← hB5]
        exact ⟨fun h => h.1.elim (unhide HNBr).1 fun h => by omega, fun h => h.1.elim (unhide HNBr).2 fun h => by omega⟩
      have HTa5 := hide (((unhide HTa).below (unhide HB4)).aside (unhide HA5) (unhide HNBr).1)
      have HTb5 := hide (((unhide HTb).below (unhide HB4)).aside (unhide HA5) (unhide HNBr).2)
      have hpr5 := (((unhide HPr).below (unhide HB4)).mono (K' := fun j => ¬ B j ∧ ¬ none_ j) fun _ _ h => ⟨h, fun h => h⟩).bn (unhide HA5)
      have h5 := unhide H5
      rw [hB5] at hpr5 h5
      have HPr5 : Hid (PrsAt (fun j => ¬ B5 j) w5 (.slice sw NW cw) W) := hpr5.mono fun _ _ h => h.1
      have HO5 := hide h5
      have HBw5 := hide h5.b
      have hB5l : ∀ j, w5.heap.size ≤ j → ¬ B5 j := fun j hj hB => by have := (h5.gen0 j hB).2; omega
      have HB5l := hide hB5l
      have HWs : Hid (W.length ≤ 65536) := Nat.le_trans (unhide HTs).len (unhide HO).right.2
      have HTs5 := hide ((unhide HTs).set sb hsbl n hn16)
      rw [hq, unhide HLL] at HTs5
      obtain ⟨u5, hu5⟩ : ∃ y, u + needs (wrL ll).length = y := ⟨_, rfl⟩
      obtain ⟨P5, hP5⟩ : ∃ y, withP P ll = y := ⟨_, rfl⟩
      obtain ⟨W5, hW5⟩ : ∃ y, withP W [⟨sb, putB n, false⟩] = y := ⟨_, rfl⟩
      rw [hu5] at HO5 HUn
      rw [hP5] at HO5 HTs5
      rw [hW5] at HTs5
      have HW5 := hide hW5
      have HFew : Hid (KeysL W) := fun x hx => by have := (unhide HTs).few x hx; omega
      obtain ⟨cp, w6, hcv, hbt6, hb6, hz6⟩ := conv_bytes w5 s
      clear hz6
      rw [unhide HSb] at hbt6
      have HBt6 := hide hbt6
      have HB6 := hide hb6
      have m1 := unhide HK1 w6 ((unhide HBw5).trans (hb6.mono (unhide HBw5).size))
      have HLp := hide (lput_c w6 n hn16)
      clear hAa hAb hs4 hpr5 h5 hB5 hB5l hu5 hP5 hW5 H5 HA5 HCa HCb HCo HB2 HB4 HC2 HCH4 HBd HTa HTb HPr HO HTs HNBr i1 j1 k1 hbt6 hb6 eX hq HLL HWl
      go_upto_region 23 with (first
        | (go_at_call 32; refine (unhide HLp).mono ?_
           rintro e w7 ⟨rfl, hby7, hb7⟩
           have hs56 := (unhide HB6).size
           have hs67 := hb7.size
           have hb57 := (unhide HB6).trans (hb7.mono hs56)
           have hl6 := World.block_lt_of_cell?
           have hcv7 : ChV w5.heap.size w7 ⟨sb, putB n, false⟩ (.slice (some ⟨w5.heap.size, 0, none⟩) s.size cp) (.slice (some ⟨w6.heap.size, 0, none⟩) 2 2) := ⟨(unhide HBt6).below hb7, hby7, fun _ j hj => by simp only [Value.ownBlock, Option.some.injEq] at hj; omega, fun _ j hj => by simp only [Value.ownBlock, Option.some.injEq] at hj; omega⟩
           have hch8 := chs_one (T := 74) (K := fun j => ¬ B5 j) hcv7 hb57.size (unhide HB5l)
           have hb78 : Below w7.heap.size w7 (w7.alloc (.cells #[.slice (some ⟨w5.heap.size, 0, none⟩) s.size cp, .slice (some ⟨w6.heap.size, 0, none⟩) 2 2, .bool false] 74)) := (Below.refl _ _).alloc (Nat.le_refl _) _
           have HB58 := hide (hb57.trans (hb78.mono hb57.size))
           have HRw := hide (rwith_c ((unhide HPr5).below (unhide HB58)) hch8 (by have := unhide HWs; simp; omega) (unhide HFew) (fun c hc => by simp only [List.mem_singleton] at hc; subst hc; show sb.length ≤ _; omega))
           rw [unhide HW5] at HRw
           clear hby7 hb7 hs56 hs67 hb57 hl6 hcv7 hch8 hb78)
        | (go_at_call 25; refine (unhide HRw).mono ?_
           rintro e w9 ⟨v9, rfl, hp9, hb9⟩
           obtain ⟨s9, c9, e9, _⟩ := id hp9.form
           subst e9
           have HB9 := hide ((unhide HB58).trans (hb9.mono (unhide HB58).size))
           have HPr9 : Hid (PrsAt (fun j => ¬ B5 j) w9 (.slice s9 W5.length c9) W5) := hp9.mono fun k _ h => h.1.elim (fun h => h) fun h => unhide HB5l k (Nat.le_trans (unhide HB58).size h)
           clear hp9 hb9)
        | fail)
      obtain ⟨NW5, hNW5⟩ : ∃ y, W5.length = y := ⟨_, rfl⟩
      have HNW5 := hide hNW5
      rw [hNW5] at HPr9
      rw [hNW5]
      have HO9 := hide ((unhide HO5).below HP HS (unhide HB9))
      have HTa9 := hide ((unhide HTa5).below (unhide HB9))
      have HTb9 := hide ((unhide HTb5).below (unhide HB9))
      have HB5g : Hid (∀ j, B5 j → j < w9.heap.size) := fun j hj => ((unhide HO9).gen0 j hj).2
      clear hNW5 HPr5 HTa5 HTb5 HO5 HB6 HBt6 HB58 HRw HLp hcv m1 HBw5 HFew HWs l1 HW5
      by_cases hd : (i : Int) = dr
      rotate_left
      · have d7 : decide ((i : Int) = dr) = false := by simp; omega
        have d7b : ((i : Int) == dr) = false := by simp; omega
        clear hd
        go_wp2_with (fail)
        exact ⟨⟨i + 1, u5, k + 1, NW5, c9, s9, B5, P5, W5, hlt, by have := unhide HUn; omega, by omega, rfl, by go_num, HNW5, HO9, HTa9, HTb9, HNB5, HPr9, HTs5⟩, by simp [intOf]; omega⟩
      obtain rfl : dr = (i : Int) := hd.symm
      clear hd
      have d7 : decide ((i : Int) = (i : Int)) = true := by simp
      have d7b : ((i : Int) == (i : Int)) = true := by simp
      have HWs5 : Hid (W5.length ≤ 65536) := Nat.le_trans (unhide HTs5).len (unhide HO9).right.2
      have HFew5 : Hid (KeysL W5) := fun x hx => by have := (unhide HTs5).few x hx; omega
      have HDr := hide (tdrop_c (unhide HTa9) s (by have : strA.size = 2 := rfl; omega))
      rw [show (strA ++ s).data.toList = preA ++ sb by rw [← unhide HSb]; simp [strA, preA]] at HDr
      obtain ⟨lD, hlD⟩ : ∃ y : List Ch, [⟨preA ++ sb, [], true⟩] = y := ⟨_, rfl⟩
      have hlenD : (wrL lD).length ≤ 28 := by
        rw [← hlD]
        have h9 := wrL_one ⟨preA ++ sb, [], true⟩
        simp only [List.length_append, List.length_nil, show preA.length = 2 from rfl] at h9
        omega
      have hneedD : needs (wrL lD).length ≤ 1 := by unfold needs; omega
      have hrcD : refC ⟨199, 1, u5, P5⟩ lD = (⟨199, 1, u5 + needs (wrL lD).length, withP P5 lD⟩, 0) := tab_commit (by
        rw [← hlD]
        intro c hc
        simp only [List.mem_cons, List.not_mem_nil, or_false] at hc
        subst hc
        exact ⟨by simp [preA], by simp only [List.length_append, show preA.length = 2 from rfl]; omega, fun h => by cases h⟩) (by rw [← hlD]; simp) (by omega) (by have := unhide HUn; omega)
      have HCoD : Hid (∀ w2 x, Below w9.heap.size w9 w2 → ChsAt (fun j => w9.heap.size ≤ j) w2 x lD → Calls Tryz.prog 14 #[.pointer (some ta), x] w2 fun e w' => e = .returned (.int .i64 0) ∧ SysAt PAt SAt 400 w w' (.pointer (some pa)) (.pointer (some ta)) ⟨199, 1, u5 + needs (wrL lD).length, withP P5 lD⟩ (k + 2) (BN B5 w2 w') ∧ Aside B5 w2 w') := fun w2 x hb hx => by
        have hcmt := ((unhide HO9).below HP HS hb).commit HP HS hx (fun j hj hB => by have h1 := unhide HB5g j hB; have h2 : w9.heap.size ≤ j := hj; omega) (by rw [← hlD]; simp) (by omega) (by show (1 : Nat) < _; omega)
        rw [hrcD] at hcmt
        exact hcmt
      have HUD : Hid (u5 + needs (wrL lD).length ≤ 1 + 3 * (i + 1)) := by show _ ≤ _; have := unhide HUn; omega
      have HLD := hide hlD
      clear hlD hlenD hneedD hrcD
      go_upto_region 26 with (first
        | (go_at_call 35; refine (unhide HDr).mono ?_
           rintro e w10 ⟨s1, n1, c1, rfl, hc10, hb10⟩
           have hch := chs_one (T := 72) (K := fun j => w9.heap.size ≤ j) hc10 hb10.size (fun j hj => hj)
           have hb11 : Below w10.heap.size w10 (w10.alloc (.cells #[.slice s1 n1 c1, .slice none 0 0, .bool true] 72)) := (Below.refl _ _).alloc (Nat.le_refl _) _
           have HB11 := hide (hb10.trans (hb11.mono hb10.size))
           rw [unhide HLD] at hch
           have HCH11 := hide hch
           clear hc10 hb10 hb11 hch)
        | (go_at_call 14; refine (unhide HCoD _ _ (unhide HB11) (unhide HCH11)).mono ?_
           rintro e w12 ⟨rfl, h12, ha12⟩
           have H12 := hide h12
           have HA12 := hide ha12
           clear h12 ha12)
        | fail)
      have hs11 := (unhide HB11).size
      have hAa := lt_of_row (unhide HTa9).row
      have hAb := lt_of_row (unhide HTb9).row
      obtain ⟨B6, hB6⟩ : ∃ y, BN B5 (w10.alloc (.cells #[.slice s1 n1 c1, .slice none 0 0, .bool true] 72)) w12 = y := ⟨_, rfl⟩
      have HNB6 : Hid (¬ B6 Aa ∧ ¬ B6 Ab) := by
        show _ ∧ _
        rw [← hB6]
        exact ⟨fun h => h.1.elim (unhide HNB5).1 fun h => by omega, fun h => h.1.elim (unhide HNB5).2 fun h => by omega⟩
      have HTa12 := hide (((unhide HTa9).below (unhide HB11)).aside (unhide HA12) (unhide HNB5).1)
      have HTb12 := hide (((unhide HTb9).below (unhide HB11)).aside (unhide HA12) (unhide HNB5).2)
      have hpr12 := (((unhide HPr9).below (unhide HB11)).mono (K' := fun j => ¬ B5 j ∧ ¬ none_ j) fun _ _ h => ⟨h, fun h => h⟩).bn (unhide HA12)
      have h12 := unhide H12
      rw [hB6] at hpr12 h12
      have HPr12 : Hid (PrsAt (fun j => ¬ B6 j) w12 (.slice s9 NW5 c9) W5) := hpr12.mono fun _ _ h => h.1
      have HO12 := hide h12
      have HB6l : Hid (∀ j, w12.heap.size ≤ j → ¬ B6 j) := fun j hj hB => by have := (h12.gen0 j hB).2; omega
      have HTs6 := hide ((unhide HTs5).drop sb hsbl)
      rw [unhide HLD] at HTs6
      obtain ⟨u6, hu6⟩ : ∃ y, u5 + needs (wrL lD).length = y := ⟨_, rfl⟩
      obtain ⟨P6, hP6⟩ : ∃ y, withP P5 lD = y := ⟨_, rfl⟩
      obtain ⟨W6, hW6⟩ : ∃ y, withP W5 [⟨sb, [], true⟩] = y := ⟨_, rfl⟩
      rw [hu6] at HO12 HUD
      rw [hP6] at HO12 HTs6
      rw [hW6] at HTs6
      have HW6 := hide hW6
      obtain ⟨cq, w13, hcv13, hbt13, hb13, hz13⟩ := conv_bytes w12 s
      clear hz13
      rw [unhide HSb] at hbt13
      have hcv13c : ChV w12.heap.size w13 ⟨sb, [], true⟩ (.slice (some ⟨w12.heap.size, 0, none⟩) s.size cq) (.slice none 0 0) := ⟨hbt13, bytes_nil _, fun _ j hj => by simp only [Value.ownBlock, Option.some.injEq] at hj; omega, fun hne => absurd rfl hne⟩
      have hch14 := chs_one (T := 74) (K := fun j => ¬ B6 j) hcv13c hb13.size (unhide HB6l)
      have hb14 : Below w13.heap.size w13 (w13.alloc (.cells #[.slice (some ⟨w12.heap.size, 0, none⟩) s.size cq, .slice none 0 0, .bool true] 74)) := (Below.refl _ _).alloc (Nat.le_refl _) _
      have HB14 := hide (hb13.trans (hb14.mono hb13.size))
      have HRw := hide (rwith_c ((unhide HPr12).below (unhide HB14)) hch14 (by have := unhide HWs5; have := unhide HNW5; simp; omega) (unhide HFew5) (fun c hc => by simp only [List.mem_singleton] at hc; subst hc; show sb.length ≤ _; omega))
      rw [unhide HW6] at HRw
      clear hs11 hAa hAb hpr12 h12 hB6 hu6 hP6 hW6 H12 HA12 HCoD HB11 HCH11 HTa9 HTb9 HPr9 HO9 HTs5 HNB5 hbt13 hb13 hcv13c hch14 hb14 HDr HLD HWs5 HFew5 HB5g
      go_wp2_with (first
        | (go_at_call 25; refine (unhide HRw).mono ?_
           rintro e w15 ⟨v15, rfl, hp15, hb15⟩
           obtain ⟨s15, c15, e15, _⟩ := id hp15.form
           subst e15
           have HB15 := hide ((unhide HB14).trans (hb15.mono (unhide HB14).size))
           have HPr15 : Hid (PrsAt (fun j => ¬ B6 j) w15 (.slice s15 W6.length c15) W6) := hp15.mono fun k _ h => h.1.elim (fun h => h) fun h => unhide HB6l k (Nat.le_trans (unhide HB14).size h)
           clear hp15 hb15)
        | fail)
      exact ⟨⟨i + 1, u6, k + 2, W6.length, c15, s15, B6, P6, W6, hlt, by have := unhide HUD; omega, by omega, rfl, by go_num, hide rfl, hide ((unhide HO12).below HP HS (unhide HB15)), hide ((unhide HTa12).below (unhide HB15)), hide ((unhide HTb12).below (unhide HB15)), HNB6, HPr15, HTs6⟩, by simp [intOf]; omega⟩
    · obtain rfl : i = N := by omega
      have f1 : decide ((i : Int) < (i : Int)) = false := by simp
      have f1n : decide (i < i) = false := by simp
      have Hnm := hide (SysAt.names HN (unhide HO) (unhide HTa))
      rw [show strA.data.toList = preA from rfl, show strA.size = 2 from rfl, (unhide HTs).keys] at Hnm
      go_upto_region 29 with (first
        | (go_at_call 36; refine (unhide Hnm).mono ?_
           rintro e w1 ⟨v1, rfl, ho1, hb1⟩
           obtain ⟨s1, c1, e1⟩ := OwnV.form ho1
           rw [List.length_map, List.length_map, unhide HWl] at e1
           subst e1
           have HO1 := hide ((unhide HO).below HP HS hb1)
           have HTa1 := hide ((unhide HTa).below hb1)
           have HTb1 := hide ((unhide HTb).below hb1)
           have HPr1 := hide ((unhide HPr).below hb1)
           have HOn := hide ho1
           have HXr1 := hide ((unhide HXr).below (unhide HO1).b)
           clear ho1 hb1)
        | fail)
      have hNWb : NW ≤ 65536 := by have h8 := (unhide HTs).len; have h9 : P.length ≤ 65536 := (unhide HO).right.2; have := unhide HWl; omega
      clear HO HTa HTb HPr Hnm
      go_wp2_with (fail)
      go_loopw [153] (fun ii wr => ∃ j : Nat, j ≤ NW ∧ ii = .int .i64 (j : Int) ∧ Hid (Below w1.heap.size w1 wr)) (fun ii _ => NW - (intOf ii).toNat)
      case atStart => exact ⟨0, Nat.zero_le _, rfl, Below.refl _ _⟩
      case round =>
        obtain ⟨j, hj, rfl, HB⟩ := hrel
        by_cases hlt2 : j < NW
        · as_aux_lemma =>
            obtain ⟨pr, gp, op, q1, d1, q2, d2, hpr, hsp, _, hgp, h2⟩ := ((unhide HPr1).below (unhide HB)).one (i := j) (by have := unhide HWl; omega)
            subst hsp
            obtain ⟨n, hn16, hx2, hga, hgb⟩ := (unhide HTs).here hpr
            have hfew := (unhide HTs).few pr (List.mem_of_getElem? hpr)
            have f2 : decide ((j : Int) < (NW : Int)) = true := by simp; omega
            have f2n : decide (j < NW) = true := by simp; omega
            have t0 : (0 : Int) ≤ (j : Int) := by omega
            have t1 : (j : Int) < (NW : Int) := by omega
            have hne : (W.map (·.1)).map ks ≠ [] := by intro e; have h9 := congrArg List.length e; rw [List.length_map, List.length_map, unhide HWl] at h9; simp at h9; omega
            obtain ⟨gk, ok_, ck, ek, _, _, hck⟩ := ValsAt.cell (OwnV.vals (unhide HOn)) hne
            simp only [Value.slice.injEq] at ek
            obtain ⟨rfl, ek1, rfl⟩ := ek
            have k8 := hck j (by rw [List.length_map, List.length_map, unhide HWl]; exact hlt2)
            rw [List.getD_eq_getElem?_getD, List.getElem?_map, List.getElem?_map, hpr] at k8
            obtain ⟨sx, hsx⟩ : ∃ y : ByteArray, (⟨pr.1.toArray⟩ : ByteArray) = y := ⟨_, rfl⟩
            have k8 : w1.cell? ⟨gk, ok_ + j, none⟩ = some (.string sx) := by rw [← hsx]; exact k8
            have hxs : sx.data.toList = pr.1 := by rw [← hsx]
            have hsz : sx.size ≤ 20 := by rw [← hsx]; exact hfew
            obtain ⟨KP, hKP⟩ : ∃ y, pr.1.length = y := ⟨_, rfl⟩
            obtain ⟨VP, hVP⟩ : ∃ y, pr.2.length = y := ⟨_, rfl⟩
            have p0 := h2.c0
            have p1 := h2.c1
            rw [hKP] at p0
            rw [hVP] at p1
            obtain ⟨w3, hw3⟩ : ∃ y, wr.alloc (.cells #[Value.slice q1 KP d1, Value.slice q2 VP d2] 78) = y := ⟨_, rfl⟩
            have hb3 : Below wr.heap.size wr w3 := by rw [← hw3]; exact (Below.refl _ _).alloc (Nat.le_refl _) _
            obtain ⟨m0, m1⟩ := cells_new2 wr (Value.slice q1 KP d1) (Value.slice q2 VP d2) 78
            rw [hw3] at m0 m1
            have hb13 := (unhide HB).trans (hb3.mono (unhide HB).size)
            have HQ1 : Hid (BytesAt w3 (.slice q1 KP d1) pr.1) := by have := h2.key.at_.below hb3; rw [hKP] at this; exact this
            have HQ2 : Hid (BytesAt w3 (.slice q2 VP d2) (putB n)) := by have := h2.val.at_.below hb3; rw [hVP, hx2] at this; exact this
            have k8w := cell_aside (S := none_) k8 (Aside.of_below (unhide HB)) (fun h => h)
            have HB3 := hide hb13
            have hwr3 : wr.heap.size < w3.heap.size := World.block_lt_of_cell? _ _ m0
            have HK8 : Hid (∀ w2, Below w3.heap.size w3 w2 → w2.cell? ⟨gk, ok_ + j, none⟩ = some (.string sx) ∧ w2.cell? ⟨wr.heap.size, 0, none⟩ = some (.slice q1 KP d1) ∧ w2.cell? ⟨wr.heap.size, 1, none⟩ = some (.slice q2 VP d2)) := fun w2 hb => ⟨cell_aside (S := none_) k8 (Aside.of_below (hb13.trans (hb.mono hb13.size))) fun h => h, cell_aside (S := none_) m0 (Aside.of_below hb) fun h => h, cell_aside (S := none_) m1 (Aside.of_below hb) fun h => h⟩
            have Hga : Hid (∀ w2, Below w3.heap.size w3 w2 → Calls Tryz.prog 37 #[.pointer (some ⟨Aa, 0, none⟩), .string sx] w2 fun e w' => e = .returned (.tuple #[.int .i64 (n : Int), .bool true]) ∧ Below w2.heap.size w2 w') := fun w2 hb => by
              have hb2 := hb13.trans (hb.mono hb13.size)
              have h9 := SysAt.tget HS ((unhide HO1).below HP HS hb2) ((unhide HTa1).below hb2) sx (by have : strA.size = 2 := rfl; omega)
              rw [show (strA ++ sx).data.toList = preA ++ pr.1 by rw [← hxs]; simp [strA, preA], hga, Option.getD_some, get_put hn16, decide_eq_true (putB_len n)] at h9
              exact h9
            obtain ⟨q, hq⟩ : ∃ q, n ^^^ 1 = q := ⟨_, rfl⟩
            have hq16 : q < 65536 := by rw [← hq]; exact xor_small hn16
            have eX := i64_xor_nat n 1 (by omega) (by omega)
            rw [hq] at eX hgb
            have eX : bits .xor .i64 (n : Int) 1 = (q : Int) := eX
            have Hgb : Hid (∀ w2, Below w3.heap.size w3 w2 → Calls Tryz.prog 37 #[.pointer (some ⟨Ab, 0, none⟩), .string sx] w2 fun e w' => e = .returned (.tuple #[.int .i64 (q : Int), .bool true]) ∧ Below w2.heap.size w2 w') := fun w2 hb => by
              have hb2 := hb13.trans (hb.mono hb13.size)
              have h9 := SysAt.tget HS ((unhide HO1).below HP HS hb2) ((unhide HTb1).below hb2) sx (by have : strB.size = 2 := rfl; omega)
              rw [show (strB ++ sx).data.toList = preB ++ pr.1 by rw [← hxs]; simp [strB, preB], hgb, Option.getD_some, get_put hq16, decide_eq_true (putB_len q)] at h9
              exact h9
            have Hgt : Hid (∀ w2, Below w3.heap.size w3 w2 → Calls Tryz.prog 33 #[.slice q2 VP d2] w2 fun e w' => e = .returned (.tuple #[.int .i64 (n : Int), .bool true]) ∧ Below w2.heap.size w2 w') := fun w2 hb => by
              have h9 := lget_c w2 _ _ ((unhide HQ2).below hb)
              rw [get_put hn16, decide_eq_true (putB_len n)] at h9
              exact h9
            have HSx := hide hsx
            clear hpr hx2 hga hgb hfew hne hck ek1 hsx hxs hKP hVP h2 hb3 hb13 hq k8 k8w
            have HCv : Hid (∀ w', BytesAt w' (.slice q1 KP d1) pr.1 → (convert 23 9 (.slice q1 KP d1)).run Tryz.prog w' = .ok (.string sx) w') := fun w' h => by rw [conv_str h, unhide HSx]
            obtain ⟨k8a, m0a, m1a⟩ := unhide HK8 w3 (Below.refl _ _)
            go_upto_region 37 with (first
              | (go_at_call_of 37 (Value.pointer (some ⟨Aa, 0, none⟩)); refine (unhide Hga _ (Below.refl _ _)).mono ?_; rintro e w4 ⟨rfl, hb4⟩; have HB4 := hide hb4; obtain ⟨k8b, m0b, m1b⟩ := unhide HK8 w4 hb4; clear hb4)
              | (go_at_call_of 37 (Value.pointer (some ⟨Ab, 0, none⟩)); refine (unhide Hgb _ (unhide HB4)).mono ?_; rintro e w5 ⟨rfl, hb5⟩; have HB5 := hide ((unhide HB4).trans (hb5.mono (unhide HB4).size)); obtain ⟨k8c, m0c, m1c⟩ := unhide HK8 w5 (unhide HB5); clear hb5)
              | (go_at_call 33; refine (unhide Hgt _ (unhide HB5)).mono ?_; rintro e w6 ⟨rfl, hb6⟩; have HB6 := hide ((unhide HB5).trans (hb6.mono (unhide HB5).size)); obtain ⟨k8d, m0d, m1d⟩ := unhide HK8 w6 (unhide HB6); clear hb6)
              | fail)
            have hcv0 := unhide HCv w6 ((unhide HQ1).below (unhide HB6))
            have hbd : Below w6.heap.size w6 w6.drew := (Below.refl _ _).drew
            have hcv := unhide HCv w6.drew (((unhide HQ1).below (unhide HB6)).below hbd)
            have HB7 : Hid (Below w1.heap.size w1 w6.drew) := (unhide HB3).trans (((unhide HB6).trans (hbd.mono (unhide HB6).size)).mono (unhide HB3).size)
            clear k8a m0a m1a k8b m0b m1b k8c m0c m1c m1d m0 m1 hbd Hga Hgb Hgt HK8 HCv HQ1 HQ2 HB4 HB5 HB6 HB3 HB HO1 HTa1 HTb1 HPr1 HOn HXr1 HTs HNBr HXn HXm HXr HNn HNm HNr HSx hw3 hwr3 p0 p1 hn16 hq16 hsz hgp
            as_aux_lemma =>
              go_region_held3 (fun u => u.cell? ⟨gk, ok_ + j, none⟩ = some (.string sx) ∧ u.cell? ⟨wr.heap.size, 0, none⟩ = some (.slice q1 KP d1) ∧ (convert 23 9 (.slice q1 KP d1)).run Tryz.prog u = .ok (.string sx) u) (go_keep) (fail)
              go_wp2_with (fail)
              exact ⟨⟨j + 1, hlt2, by go_num, HB7⟩, by simp [intOf]; omega⟩
        · obtain rfl : j = NW := by omega
          have f2 : decide ((j : Int) < (j : Int)) = false := by simp
          have f2n : decide (j < j) = false := by simp
          have HO2 := hide ((unhide HO1).below HP HS (unhide HB))
          have HTa2 := hide ((unhide HTa1).below (unhide HB))
          have hrk : ∀ y, raw ≠ [] → (Value.slice sr NR cr).ownBlock = some y → y < w.heap.size := fun y hne hy => ValsAt.old (unhide HXr) (by simpa using hne) y hy
          obtain ⟨lR, hlR⟩ : ∃ y : List Ch, [⟨rawK, raw, false⟩] = y := ⟨_, rfl⟩
          have hlenR : (wrL lR).length ≤ 111 := by
            rw [← hlR]
            have h9 := wrL_one ⟨rawK, raw, false⟩
            have h8 := unhide HNr
            simp only [show rawK.length = 5 from rfl] at h9
            omega
          have hneedR : needs (wrL lR).length ≤ 3 := by unfold needs; omega
          have hrcR : refC ⟨199, 1, u, P⟩ lR = (⟨199, 1, u + needs (wrL lR).length, withP P lR⟩, 0) := tab_commit (by
            rw [← hlR]
            intro c hc
            simp only [List.mem_cons, List.not_mem_nil, or_false] at hc
            subst hc
            exact ⟨by show 1 ≤ rawK.length; decide, by show rawK.length ≤ 32; decide, fun _ => by have h8 := unhide HNr; show raw.length ≤ _; omega⟩) (by rw [← hlR]; simp) (by omega) (by omega)
          have HCoR : Hid (∀ w2 x, Below wr.heap.size wr w2 → ChsAt (fun j => ¬ B j) w2 x lR → Calls Tryz.prog 14 #[.pointer (some ta), x] w2 fun e w' => e = .returned (.int .i64 0) ∧ SysAt PAt SAt 400 w w' (.pointer (some pa)) (.pointer (some ta)) ⟨199, 1, u + needs (wrL lR).length, withP P lR⟩ (k + 1) (BN B w2 w') ∧ Aside B w2 w') := fun w2 x hb hx => by
            have hcmt := ((unhide HO2).below HP HS hb).commit HP HS hx (fun j hj hB => hj hB) (by rw [← hlR]; simp) (by omega) (by show (1 : Nat) < _; omega)
            rw [hrcR] at hcmt
            exact hcmt
          have hg0 := (unhide HO2).gen0
          have hws := (unhide HO2).b.size
          obtain ⟨wy, wz, hwy, hcvz, hbyR, hb1⟩ := const_raw wr
          have hch := chs_gen (K := fun j => ¬ B j) (T := 72) (c0 := ⟨rawK, raw, false⟩) hbyR (((unhide HXr).below (unhide HO2).b).below hb1) (fun _ y hy hB => by simp only [Value.ownBlock, Option.some.injEq] at hy; have := (hg0 y hB).2; omega) (fun hne y hy hB => by have h1 := hrk y hne hy; have h2 := (hg0 y hB).1; omega) (fun hB => by have h1 := (hg0 _ hB).2; have h2 := hb1.size; omega)
          have hb2 : Below wz.heap.size wz (wz.alloc (.cells #[.slice (some ⟨wr.heap.size, 0, none⟩) 5 5, .slice sr NR cr, .bool false] 72)) := (Below.refl _ _).alloc (Nat.le_refl _) _
          have HB2 := hide (hb1.trans (hb2.mono hb1.size))
          rw [hlR] at hch
          have HCH := hide hch
          have hraw := (unhide HTs).raw raw
          rw [hlR] at hraw
          have HRaw := hide hraw
          have hAa := lt_of_row (unhide HTa2).row
          have HAa : Hid (Aa < wr.heap.size) := hAa
          have eR : (⟨#[114, 97, 119]⟩ : ByteArray) = strR := rfl
          have eN : (⟨#[110, 111, 116, 104, 105, 110, 103, 32, 116, 104, 97, 116, 32, 105, 115, 32, 116, 104, 101, 114, 101]⟩ : ByteArray) = strN := rfl
          obtain ⟨bb, hbb⟩ : ∃ y, decide (raw.length = 2) = y := ⟨_, rfl⟩
          obtain ⟨gb, hgb⟩ : ∃ y, getB raw = y := ⟨_, rfl⟩
          have HBB := hide hbb
          have HGB := hide hgb
          clear hlR hlenR hneedR hrcR hb1 hbyR hch hb2 hraw hAa hg0 hws hrk hbb hgb HO1 HTa1 HTb1 HPr1 HOn HXr1
          go_upto_region 42 with (first
            | (go_at_call 14; refine (unhide HCoR _ _ (unhide HB2) (unhide HCH)).mono ?_
               rintro e w7 ⟨rfl, h7, ha7⟩
               have HO7 := hide h7
               have HTa7 := hide (((unhide HTa2).below (unhide HB2)).aside ha7 (unhide HNBr).1)
               have HXr7 := hide ((unhide HXr).below h7.b)
               clear h7 ha7)
            | fail)
          clear HCoR HB2 HCH HO2 HTa2 hwy hcvz
          have HgR : Hid (∀ w2, Below w7.heap.size w7 w2 → Calls Tryz.prog 37 #[.pointer (some ⟨Aa, 0, none⟩), .string strR] w2 fun e w' => e = .returned (.tuple #[.int .i64 (gb : Int), .bool bb]) ∧ Below w2.heap.size w2 w') := fun w2 hb => by
            have h9 := SysAt.tget HS ((unhide HO7).below HP HS hb) ((unhide HTa7).below hb) strR (by decide)
            rw [show (strA ++ strR).data.toList = preA ++ [114, 97, 119] by simp [strA, strR, preA], (unhide HRaw).1, Option.getD_some, unhide HBB, unhide HGB] at h9
            exact h9
          have HgN : Hid (∀ w2, Below w7.heap.size w7 w2 → Calls Tryz.prog 37 #[.pointer (some ⟨Aa, 0, none⟩), .string strN] w2 fun e w' => e = .returned (.tuple #[.int .i64 0, .bool false]) ∧ Below w2.heap.size w2 w') := fun w2 hb => by
            have h9 := SysAt.tget HS ((unhide HO7).below HP HS hb) ((unhide HTa7).below hb) strN (by decide)
            rw [show (strA ++ strN).data.toList = preA ++ strN.data.toList by simp [strA, preA], (unhide HRaw).2] at h9
            exact h9
          have HgG : Hid (∀ w2, Below w7.heap.size w7 w2 → Calls Tryz.prog 33 #[.slice sr NR cr] w2 fun e w' => e = .returned (.tuple #[.int .i64 (gb : Int), .bool bb]) ∧ Below w2.heap.size w2 w') := fun w2 hb => by
            have h9 := lget_c w2 _ _ ((unhide HXr7).below hb)
            rw [unhide HBB, unhide HGB] at h9
            exact h9
          go_upto_region 45 with (first
            | (go_at_call_of 37 (Value.string strR); refine (unhide HgR _ (Below.refl _ _)).mono ?_; rintro e w8 ⟨rfl, hb8⟩; have HB8 := hide hb8; clear hb8)
            | (go_at_call 33; refine (unhide HgG _ (unhide HB8)).mono ?_; rintro e w9 ⟨rfl, hb9⟩; have HB9 := hide ((unhide HB8).trans (hb9.mono (unhide HB8).size)); clear hb9)
            | (go_at_call_of 37 (Value.string strN); refine (unhide HgN _ (unhide HB9)).mono ?_; rintro e w10 ⟨rfl, hb10⟩; have HB10 := hide ((unhide HB9).trans (hb10.mono (unhide HB9).size)); clear hb10)
            | fail)
          have HBe : Hid (Below w.heap.size w w10) := (unhide HO7).b.trans ((unhide HB10).mono (unhide HO7).b.size)
          clear HO7 HTa7 HXr7 HgR HgN HgG HB8 HB9 HB10
          cases bb
          · go_wp2_with (fail)
            go_ret
            exact ⟨rfl, unhide HBe⟩
          · go_wp2_with (fail)
            go_ret
            exact ⟨rfl, unhide HBe⟩
end
end Go.Proofs.YtbjgknoipbekoaaGreat
