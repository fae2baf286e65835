/-
  The statements' anchor of layer 15, walked out of the records.
-/
import Derived.Test.YtbjgknoipbekoaaGreatQ22
import Derived.Test.YtbjgknoipbekoaaGreatQ23
import Derived.Lib.SlBytesConst
namespace Go.Proofs.YtbjgknoipbekoaaGreat
open Go.RowKit
/-- One byte as a constant text's bytes. -/
theorem const_one (w : World) (b : UInt8) : ∃ w1 w2, w.alloc (.cells #[.int .u8 (b.toNat : Int)] 5) = w1 ∧ (convert 23 23 (.slice (some ⟨w.heap.size, 0, none⟩) 1 1)).run Tryz.prog w1 = .ok (.slice (some ⟨w.heap.size, 0, none⟩) 1 1) w2 ∧ BytesAt w2 (.slice (some ⟨w.heap.size, 0, none⟩) 1 1) [b] ∧ Below w.heap.size w w2 := by
  refine ⟨_, _, rfl, Lib.run_convert_bytes_const w 23 5 #[.int .u8 (b.toNat : Int)] 1 1 Tryz.underlying23 Tryz.underlying5, ?_, (Below.refl _ _).alloc (Nat.le_refl _) _⟩
  refine ⟨_, _, rfl, by simp, fun e => (by cases e), fun _ => ⟨w.heap.size, 0, rfl, fun j v hv => ?_⟩⟩
  have hj : j = 0 := by have := (List.getElem?_eq_some_iff.1 hv).1; simp at this; omega
  subst hj
  rw [World.cell?_alloc_mark]
  simp at hv
  rw [← hv]
  rfl
def ancL : List Ch := [⟨[97], [49], false⟩, ⟨[98], [50], false⟩, ⟨[97], [], true⟩]
deriving instance DecidableEq for RS
theorem anc_ref : refC ⟨19, 1, 1, []⟩ ancL = (⟨19, 1, 2, [([98], [50])]⟩, 0) := by decide +kernel
/-- Three changes in a block that was just laid. -/
theorem chs_three {B : Nat} {w : World} {c0 c1 c2 : Ch} {k0 v0 k1 v1 k2 v2 : Value} (h0 : ChV B w c0 k0 v0) (h1 : ChV B w c1 k1 v1) (h2 : ChV B w c2 k2 v2) (hB : B ≤ w.heap.size) : ChsAt (fun k => B ≤ k) (w.alloc (.cells #[k0, v0, .bool c0.gone, k1, v1, .bool c1.gone, k2, v2, .bool c2.gone] 72)) (.slice (some ⟨w.heap.size, 0, none⟩) 3 3) [c0, c1, c2] := by
  obtain ⟨W, hW⟩ : ∃ y, w.alloc (.cells #[k0, v0, .bool c0.gone, k1, v1, .bool c1.gone, k2, v2, .bool c2.gone] 72) = y := ⟨_, rfl⟩
  have hb : Below w.heap.size w W := by rw [← hW]; exact (Below.refl _ _).alloc (Nat.le_refl _) _
  have hc : ∀ j u, ([k0, v0, .bool c0.gone, k1, v1, .bool c1.gone, k2, v2, .bool c2.gone] : List Value)[j]? = some u → W.cell? ⟨w.heap.size, 0 + j, none⟩ = some u := fun j u hu => by
    have h := (MapKept.heap_alloc w (.cells #[k0, v0, .bool c0.gone, k1, v1, .bool c1.gone, k2, v2, .bool c2.gone] 72)).1
    rw [hW] at h
    rw [Nat.zero_add]
    unfold World.cell?
    rw [h]
    simpa using hu
  rw [hW]
  have hl : w.heap.size < W.heap.size := World.block_lt_of_cell? _ _ (hc 0 _ rfl)
  refine ⟨⟨_, 3, rfl, Nat.le_refl 3, fun e => (by cases e)⟩, fun i c hi => ?_⟩
  rcases i with _ | _ | _ | i
  · simp only [List.getElem?_cons_zero, Option.some.injEq] at hi
    subst hi
    exact ⟨_, 0, _, _, rfl, hB, hl, k0, v0, ⟨hc 0 _ rfl, hc 1 _ rfl, hc 2 _ rfl, ⟨(h0.below hb).key, h0.kb⟩, ⟨(h0.below hb).val, h0.vb⟩⟩⟩
  · simp only [List.getElem?_cons_succ, List.getElem?_cons_zero, Option.some.injEq] at hi
    subst hi
    exact ⟨_, 0, _, _, rfl, hB, hl, k1, v1, ⟨hc 3 _ rfl, hc 4 _ rfl, hc 5 _ rfl, ⟨(h1.below hb).key, h1.kb⟩, ⟨(h1.below hb).val, h1.vb⟩⟩⟩
  · simp only [List.getElem?_cons_succ, List.getElem?_cons_zero, Option.some.injEq] at hi
    subst hi
    exact ⟨_, 0, _, _, rfl, hB, hl, k2, v2, ⟨hc 6 _ rfl, hc 7 _ rfl, hc 8 _ rfl, ⟨(h2.below hb).key, h2.kb⟩, ⟨(h2.below hb).val, h2.vb⟩⟩⟩
  · simp at hi
section
variable {PAt : Set_ → Set_ → World → Value → PS → Prop} {SAt : Set_ → Set_ → World → Value → Value → SS → Prop} (HP : Plate PAt) (HS : Store PAt SAt)
include HP HS in
set_option maxRecDepth 100000 in
set_option maxHeartbeats 4000000 in
theorem sanchor_c (w : World) : Calls Tryz.prog 7 #[] w fun e w' => e = .returned (.bool true) ∧ Below w.heap.size w w' := by
  -- plain words
  obtain ⟨G1, s1, ho1, hG1, hB1⟩ := new_opened (n := 40) (by omega) (by omega)
  have hc := hB1.commit (by omega) (by rw [← hB1.gen]; decide) ancL
  have hrf : refC ⟨(40 - 2) / 2, 1, 1, []⟩ ancL = (⟨19, 1, 2, [([98], [50])]⟩, 0) := anc_ref
  rw [hrf] at hc
  obtain ⟨hc1, hB2⟩ := hc
  have hl1 : s1.safe.length = 40 := by
    have := open_len (newS 40) ((40 - 2) / 2)
    rw [ho1] at this
    rw [this]
    exact List.length_replicate
  have hl2 : (commitS G1 s1 ancL).2.2.safe.length = 40 := by rw [commit_len, hl1]
  obtain ⟨G2, hG2⟩ : ∃ y, (commitS G1 s1 ancL).2.1 = y := ⟨_, rfl⟩
  obtain ⟨s2, hs2⟩ : ∃ y, (commitS G1 s1 ancL).2.2 = y := ⟨_, rfl⟩
  rw [hG2, hs2] at hB2
  rw [hs2] at hl2
  obtain ⟨G3, ho3, hG3, hB3⟩ := hB2.again (by omega)
  simp only at hc1
  have hgen1 : G1.gen = 1 := hB1.gen.symm
  have hp3 : G3.pairs = [([98], [50])] := hB3.pairs.symm
  have hh1 : G1.half = (s1.safe.length - 2) / 2 := by rw [hl1]; exact hG1
  have hh2 : G2.half = (s2.safe.length - 2) / 2 := by rw [hl2]; exact hB2.half.symm
  have hr0 : AtRest ((40 - 2) / 2) 0 (newS 40) [] := Or.inr ⟨rfl, new_bare (n := 40) (by omega) (by omega) (rest_new 40 0 0 1 (by omega) (by omega) (by omega) (by omega)).ok rfl rfl rfl⟩
  have hr2 : AtRest G2.half (1 + 1) s2 G2.pairs := Or.inl ⟨_, _, hB2.live.on⟩
  have Hnew := hide (HP.new_yes w 40 (by omega) (by omega))
  have Hop1 : Hid (∀ w1 p S R, On PAt w w1 p S R (newS 40) → Calls Tryz.prog 10 #[p] w1 fun e w' => ∃ a, e = .returned (.tuple #[.pointer (some a), .int .i64 0]) ∧ (∃ S' R' S2 R2, Stg PAt SAt w w' p (.pointer (some a)) S' R' S2 R2 s1 G1) ∧ Aside S w1 w') := fun w1 p S R h => h.opened_ HS hr0 (by omega) (by rw [show (newS 40).safe.length = 40 from List.length_replicate]) ho1
  have Hge1 : Hid (∀ w1 p t S R S2 R2, Stg PAt SAt w w1 p t S R S2 R2 s1 G1 → Calls Tryz.prog 20 #[t] w1 fun e w' => e = .returned (.int .i64 1) ∧ Below w1.heap.size w1 w') := fun w1 p t S R S2 R2 h => by
    have := HS.gen h.st
    rw [hgen1] at this
    exact this
  have Hco : Hid (∀ w1 w2 p t S R S2 R2 x, Stg PAt SAt w w1 p t S R S2 R2 s1 G1 → Below w1.heap.size w1 w2 → ChsAt (fun k => w1.heap.size ≤ k) w2 x ancL → Calls Tryz.prog 14 #[t, x] w2 fun e w' => e = .returned (.int .i64 0) ∧ ∃ S' R' S2' R2', Stg PAt SAt w w' p t S' R' S2' R2' s2 G2) := fun w1 w2 p t S R S2 R2 x h hb hx => by
    refine ((h.below HP HS hb).commit HS hx (fun k hk => ⟨fun h3 => ?_, fun h3 => ?_⟩) (by decide) hh1 fun _ => ⟨hB1.live, by omega⟩).mono ?_
    · have := HP.old h.p k (Or.inl h3); omega
    · have := HS.old h.st k (Or.inl h3); omega
    · rintro e w' ⟨rfl, ⟨S', R', S2', R2', h3, _⟩, _⟩
      rw [hG2, hs2] at h3
      rw [hc1]
      exact ⟨rfl, S', R', S2', R2', h3⟩
  have Hop3 : Hid (∀ w1 p t S R S2 R2, Stg PAt SAt w w1 p t S R S2 R2 s2 G2 → Calls Tryz.prog 10 #[p] w1 fun e w' => ∃ a, e = .returned (.tuple #[.pointer (some a), .int .i64 0]) ∧ ∃ S' R' S2 R2, Stg PAt SAt w w' p (.pointer (some a)) S' R' S2 R2 s2 G3) := fun w1 p t S R S2 R2 h => by
    refine (h.on.opened_ HS hr2 (by omega) hh2 ho3).mono ?_
    rintro e w' ⟨a, rfl, h3, _⟩
    exact ⟨a, rfl, h3⟩
  have Hgb : Hid (∀ w1 w2 p t S R S2 R2 x, Stg PAt SAt w w1 p t S R S2 R2 s2 G3 → Below w1.heap.size w1 w2 → BytesAt w2 x [98] → Calls Tryz.prog 15 #[t, x] w2 fun e w' => ∃ v, e = .returned (.tuple #[v, .bool true]) ∧ OwnB w' w2.heap.size v [50] ∧ Below w2.heap.size w2 w') := fun w1 w2 p t S R S2 R2 x h hb hx => by
    have := HS.get x [98] (h.below HP HS hb).st hx (by decide)
    rw [hp3] at this
    exact this
  have Hga : Hid (∀ w1 w2 p t S R S2 R2 x, Stg PAt SAt w w1 p t S R S2 R2 s2 G3 → Below w1.heap.size w1 w2 → BytesAt w2 x [97] → Calls Tryz.prog 15 #[t, x] w2 fun e w' => ∃ v, e = .returned (.tuple #[v, .bool false]) ∧ OwnB w' w2.heap.size v [] ∧ Below w2.heap.size w2 w') := fun w1 w2 p t S R S2 R2 x h hb hx => by
    have := HS.get x [97] (h.below HP HS hb).st hx (by decide)
    rw [hp3] at this
    exact this
  have Hs1 : Hid (∀ w', Calls Tryz.prog 38 #[.string ⟨#[97]⟩, .string ⟨#[49]⟩] w' fun e w2 => ∃ s1 n1 c1 s2 n2 c2, e = .returned (.agg #[.slice s1 n1 c1, .slice s2 n2 c2, .bool false]) ∧ ChV w'.heap.size w2 ⟨[97], [49], false⟩ (.slice s1 n1 c1) (.slice s2 n2 c2) ∧ Below w'.heap.size w' w2) := fun w' => lset_c w' _ _
  have Hs2 : Hid (∀ w', Calls Tryz.prog 38 #[.string ⟨#[98]⟩, .string ⟨#[50]⟩] w' fun e w2 => ∃ s1 n1 c1 s2 n2 c2, e = .returned (.agg #[.slice s1 n1 c1, .slice s2 n2 c2, .bool false]) ∧ ChV w'.heap.size w2 ⟨[98], [50], false⟩ (.slice s1 n1 c1) (.slice s2 n2 c2) ∧ Below w'.heap.size w' w2) := fun w' => lset_c w' _ _
  have Hs3 : Hid (∀ w', Calls Tryz.prog 39 #[.string ⟨#[97]⟩] w' fun e w2 => ∃ s1 n1 c1, e = .returned (.agg #[.slice s1 n1 c1, .slice none 0 0, .bool true]) ∧ ChV w'.heap.size w2 ⟨[97], [], true⟩ (.slice s1 n1 c1) (.slice none 0 0) ∧ Below w'.heap.size w' w2) := fun w' => lgone_c w' _
  clear hB1 hrf hc1 hB2 hl1 hl2 hG2 hs2 ho3 hG3 hB3 hgen1 hp3 hh1 hh2 hr0 hr2 ho1 hG1
  go_enter Tryz.func7, Tryz.ntmps7
  go_upto_region 7 with (first
    | (go_at_call 9; refine (unhide Hnew).mono ?_; rintro e w1 ⟨p1, rfl, S1, R1, hp1, hn1, hb1⟩; obtain ⟨pa, epa⟩ := HP.ptr hp1; subst epa; have HO1 : Hid (On PAt w w1 (.pointer (some pa)) S1 R1 (newS 40)) := ⟨hp1, hn1, hb1⟩; clear hp1 hn1 hb1)
    | (go_at_call 10; refine (unhide Hop1 _ _ _ _ (unhide HO1)).mono ?_; rintro e w2 ⟨a2, rfl, ⟨S2, R2, S3, R3, h2⟩, _⟩; have H2 := hide h2; clear h2)
    | (go_at_call 20; refine (unhide Hge1 _ _ _ _ _ _ _ (unhide H2)).mono ?_; rintro e w3 ⟨rfl, hb3⟩; have H3 := hide ((unhide H2).below HP HS hb3); clear hb3))
  go_upto_region 8 with (first
    | (go_at_call_of 38 (Value.string ⟨#[97]⟩); refine (unhide Hs1 _).mono ?_; rintro e w4 ⟨s1', n1, c1, s2', n2, c2, rfl, hv4, hb4⟩; have HV4 := hide hv4; have HB4 := hide hb4; clear hv4 hb4)
    | (go_at_call_of 38 (Value.string ⟨#[98]⟩); refine (unhide Hs2 _).mono ?_; rintro e w5 ⟨s3', n3, c3, s4', n4, c4, rfl, hv5, hb5⟩; have HV4' := hide ((unhide HV4).below hb5); have HV5 : Hid (ChV w3.heap.size w5 ⟨[98], [50], false⟩ (.slice s3' n3 c3) (.slice s4' n4 c4)) := ⟨hv5.key, hv5.val, fun h k hk => Nat.le_trans (unhide HB4).size (hv5.kb h k hk), fun h k hk => Nat.le_trans (unhide HB4).size (hv5.vb h k hk)⟩; have HB5 := hide ((unhide HB4).trans (hb5.mono (unhide HB4).size)); clear hv5 hb5)
    | (go_at_call 39; refine (unhide Hs3 _).mono ?_; rintro e w6 ⟨s5', n5, c5, rfl, hv6, hb6⟩
       have HV4'' := hide ((unhide HV4').below hb6)
       have HV5' := hide ((unhide HV5).below hb6)
       have HV6 : Hid (ChV w3.heap.size w6 ⟨[97], [], true⟩ (.slice s5' n5 c5) (.slice none 0 0)) := ⟨hv6.key, hv6.val, fun h k hk => Nat.le_trans (unhide HB5).size (hv6.kb h k hk), fun h k hk => Nat.le_trans (unhide HB5).size (hv6.vb h k hk)⟩
       have HB6 := hide ((unhide HB5).trans (hb6.mono (unhide HB5).size))
       have HX6 := hide (chs_three (unhide HV4'') (unhide HV5') (unhide HV6) (unhide HB6).size)
       obtain ⟨W7, hW7⟩ : ∃ y, w6.alloc (.cells #[.slice s1' n1 c1, .slice s2' n2 c2, .bool false, .slice s3' n3 c3, .slice s4' n4 c4, .bool false, .slice s5' n5 c5, .slice none 0 0, .bool true] 72) = y := ⟨_, rfl⟩
       have HX7 : Hid (ChsAt (fun k => w3.heap.size ≤ k) W7 (.slice (some ⟨w6.heap.size, 0, none⟩) 3 3) ancL) := by rw [← hW7]; exact unhide HX6
       have HB7 : Hid (Below w3.heap.size w3 W7) := by rw [← hW7]; exact (unhide HB6).alloc (unhide HB6).size _
       clear hv6 hb6 HX6)
    | (go_at_call 14; refine (unhide Hco _ _ _ _ _ _ _ _ _ (unhide H3) (unhide HB7) (unhide HX7)).mono ?_; rintro e w8 ⟨rfl, S8, R8, S9, R9, h8⟩; have H8 := hide h8; clear h8))
  go_upto_region 11 with (first
    | (go_at_call 10; refine (unhide Hop3 _ _ _ _ _ _ _ (unhide H8)).mono ?_; rintro e w9 ⟨a9, rfl, Sa, Ra, Sb, Rb, h9⟩; have H9 := hide h9; clear h9))
  obtain ⟨wb1, wb2, hwb1, hcvb, hxb, hbb⟩ := const_one w9 98
  have HXb := hide hxb
  have HBb := hide hbb
  rw [show ((98 : UInt8).toNat : Int) = 98 from rfl] at hwb1
  clear hxb hbb
  go_upto_region 12 with (first
    | (go_at_call 15; refine (unhide Hgb _ _ _ _ _ _ _ _ _ (unhide H9) (unhide HBb) (unhide HXb)).mono ?_; rintro e w10 ⟨v10, rfl, ho10, hb10⟩; obtain ⟨s10, c10, e10⟩ := ho10.form; subst e10; have HO10 := hide ho10.bytes; have HB10 := hide ((unhide HBb).trans (hb10.mono (unhide HBb).size)); clear ho10 hb10))
  obtain ⟨wa1, wa2, hwa1, hcva, hxa, hba⟩ := const_one w10 97
  have HXa := hide hxa
  have HBa := hide hba
  rw [show ((97 : UInt8).toNat : Int) = 97 from rfl] at hwa1
  clear hxa hba
  go_upto_region 13 with (first
    | (go_at_call 15; refine (unhide Hga _ _ _ _ _ _ _ _ _ (unhide H9) ((unhide HB10).trans ((unhide HBa).mono (unhide HB10).size)) (unhide HXa)).mono ?_; rintro e w11 ⟨v11, rfl, ho11, hb11⟩; obtain ⟨s11, c11, e11⟩ := ho11.form; subst e11; have HO11 := hide (((unhide HO10).below (unhide HBa)).below hb11); have HB11 := hide (((unhide HB10).trans ((unhide HBa).mono (unhide HB10).size)).trans (hb11.mono (by have := (unhide HB10).size; have := (unhide HBa).size; omega))); clear ho11 hb11))
  have cv := conv_str (unhide HO11)
  have hlen : ([50] : Bs).length = 1 := rfl
  rw [hlen] at cv
  go_wp2
  go_ret
  exact ⟨rfl, (unhide H9).b.trans ((unhide HB11).mono (unhide H9).b.size)⟩
end
end Go.Proofs.YtbjgknoipbekoaaGreat
