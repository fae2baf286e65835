/-
  StoreOwn out of the records.
-/
import Derived.Test.YtbjgknoipbekoaaQ24
namespace Go.Proofs.Ytbjgknoipbekoaa
open Go.RowKit
theorem ownb_row (w : World) : Row w (w.alloc (.cells #[] 5)) (.slice (some ⟨w.heap.size, 0, none⟩) 0 0) [] := ⟨ownb_empty w, (Below.refl _ _).alloc (Nat.le_refl _) _⟩
section
variable {PAt : Set_ → Set_ → World → Value → PS → Prop} {SAt : Set_ → Set_ → World → Value → Value → SS → Prop} (HP : Plate PAt) (HS : Store PAt SAt)
include HP HS in
theorem Stg.new {w0 w : World} {p t : Value} {S R S2 R2 : Set_} {s : PS} {G : SS} (h : Stg PAt SAt w0 w p t S R S2 R2 s G) {j : Nat} (hj : w.heap.size ≤ j) : (¬ S j ∧ ¬ R j) ∧ ¬ S2 j ∧ ¬ R2 j :=
  ⟨⟨fun h1 => by have := HP.old h.p j (Or.inl h1); omega, fun h1 => by have := HP.old h.p j (Or.inr h1); omega⟩, fun h1 => by have := HS.old h.st j (Or.inl h1); omega, fun h1 => by have := HS.old h.st j (Or.inr h1); omega⟩
include HP HS in
set_option maxRecDepth 100000 in
set_option maxHeartbeats 8000000 in
theorem own_true (w : World) (x y : Value) (k v : Bs) (hx : BytesAt w x k) (hy : BytesAt w y v) : Calls Try.prog 3 #[x, y] w fun e w' => e = .returned (.bool true) ∧ Below w.heap.size w w' := by
  have Han := hide (sanchor_c HP HS w)
  have HX := hide hx
  have HY := hide hy
  obtain ⟨sx, cx, rfl, _⟩ := bytes_open hx
  obtain ⟨sy, cy, rfl, _⟩ := bytes_open hy
  obtain ⟨KN, hKN⟩ : ∃ n, k.length = n := ⟨_, rfl⟩
  obtain ⟨VN, hVN⟩ : ∃ n, v.length = n := ⟨_, rfl⟩
  have HKN := hide hKN
  have HVN := hide hVN
  rw [hKN] at HX ⊢
  rw [hVN] at HY ⊢
  by_cases hbad : KN < 1 ∨ 32 < KN ∨ 1000 < VN
  · clear hx hy hKN hVN
    by_cases c1 : KN < 1
    · have d1 : decide ((KN : Int) < 1) = true := by simp; omega
      have d1n : decide (KN < 1) = true := by simp; omega
      go_enter Try.func3, Try.ntmps3
      go_wp2_with (go_at_call 5; refine (unhide Han).mono ?_; rintro e w1 ⟨rfl, hb1⟩; have HB1 := hide hb1; clear hb1)
      go_ret
      exact ⟨rfl, unhide HB1⟩
    · have d1 : decide ((KN : Int) < 1) = false := by simp; omega
      have d1n : decide (KN < 1) = false := by simp; omega
      by_cases c2 : 32 < KN
      · have d2 : decide ((32 : Int) < (KN : Int)) = true := by simp; omega
        have d2n : decide (32 < KN) = true := by simp; omega
        go_enter Try.func3, Try.ntmps3
        go_wp2_with (go_at_call 5; refine (unhide Han).mono ?_; rintro e w1 ⟨rfl, hb1⟩; have HB1 := hide hb1; clear hb1)
        go_ret
        exact ⟨rfl, unhide HB1⟩
      · have d2 : decide ((32 : Int) < (KN : Int)) = false := by simp; omega
        have d2n : decide (32 < KN) = false := by simp; omega
        have d3 : decide ((1000 : Int) < (VN : Int)) = true := by simp; omega
        have d3n : decide (1000 < VN) = true := by simp; omega
        go_enter Try.func3, Try.ntmps3
        go_wp2_with (go_at_call 5; refine (unhide Han).mono ?_; rintro e w1 ⟨rfl, hb1⟩; have HB1 := hide hb1; clear hb1)
        go_ret
        exact ⟨rfl, unhide HB1⟩
  · have d1 : decide ((KN : Int) < 1) = false := by simp; omega
    have d1n : decide (KN < 1) = false := by simp; omega
    have d2 : decide ((32 : Int) < (KN : Int)) = false := by simp; omega
    have d2n : decide (32 < KN) = false := by simp; omega
    have d3 : decide ((1000 : Int) < (VN : Int)) = false := by simp; omega
    have d3n : decide (1000 < VN) = false := by simp; omega
    -- plain words
    obtain ⟨G1, s1, ho1, hG1, hB1⟩ := new_opened (n := 200) (by omega) (by omega)
    have hR : RightL [⟨k, v, false⟩] := fun c hc => by
      rw [List.mem_singleton] at hc
      subst hc
      exact ⟨by show 1 ≤ k.length; omega, by show k.length ≤ 32; omega, fun _ => by show v.length ≤ 8192; omega⟩
    have hwl : (wrL [⟨k, v, false⟩]).length ≤ 1038 := by
      rw [wrL_cons, List.length_append, size_set _ rfl]
      show 6 + k.length + v.length + (wrL []).length ≤ _
      simp [wrL]
      omega
    have hrf : refC ⟨(200 - 2) / 2, 1, 1, []⟩ [⟨k, v, false⟩] = (⟨99, 1, 1 + needs (wrL [⟨k, v, false⟩]).length, [(k, v)]⟩, 0) := by
      unfold refC
      rw [if_neg (fun h => h hR), if_neg (by simp), if_pos ⟨by omega, by show 1 + needs _ ≤ 99; unfold needs; omega⟩]
      rfl
    have hc := hB1.commit (by omega) (by rw [← hB1.gen]; decide) [⟨k, v, false⟩]
    rw [hrf] at hc
    obtain ⟨hc1, hB2⟩ := hc
    have hl1 : s1.safe.length = 200 := by
      have := open_len (newS 200) ((200 - 2) / 2)
      rw [ho1] at this
      rw [this]
      exact List.length_replicate
    obtain ⟨G2, hG2⟩ : ∃ y, (commitS G1 s1 [⟨k, v, false⟩]).2.1 = y := ⟨_, rfl⟩
    obtain ⟨s2, hs2⟩ : ∃ y, (commitS G1 s1 [⟨k, v, false⟩]).2.2 = y := ⟨_, rfl⟩
    rw [hG2, hs2] at hB2
    simp only at hc1
    have hp2 : G2.pairs = [(k, v)] := hB2.pairs.symm
    have hh1 : G1.half = (s1.safe.length - 2) / 2 := by rw [hl1]; exact hG1
    have hr0 : AtRest ((200 - 2) / 2) 0 (newS 200) [] := Or.inr ⟨rfl, new_bare (n := 200) (by omega) (by omega) (rest_new 200 0 0 1 (by omega) (by omega) (by omega) (by omega)).ok rfl rfl rfl⟩
    have Hnew : Hid (∀ w1, Below w.heap.size w w1 → Calls Try.prog 6 #[.int .i64 200] w1 fun e w' => ∃ pa, e = .returned (.pointer (some pa)) ∧ ∃ S R, On PAt w w' (.pointer (some pa)) S R (newS 200)) := fun w1 hb => by
      refine (HP.new_yes w1 200 (by omega) (by omega)).mono ?_
      rintro e w' ⟨p1, rfl, S1, R1, q1, q2, q3⟩
      obtain ⟨pa, rfl⟩ := HP.ptr q1
      exact ⟨pa, rfl, S1, R1, q1, fun j hj => Nat.le_trans hb.size (q2 j hj), hb.trans (q3.mono hb.size)⟩
    have Hop1 : Hid (∀ w1 p S R, On PAt w w1 p S R (newS 200) → Calls Try.prog 7 #[p] w1 fun e w' => ∃ a, e = .returned (.tuple #[.pointer (some a), .int .i64 0]) ∧ ∃ S' R' S2 R2, Stg PAt SAt w w' p (.pointer (some a)) S' R' S2 R2 s1 G1) := fun w1 p S R h => by
      refine (h.opened_ HS hr0 (by omega) (by rw [show (newS 200).safe.length = 200 from List.length_replicate]) ho1).mono ?_
      rintro e w' ⟨a, rfl, h3, _⟩
      exact ⟨a, rfl, h3⟩
    have Hco : Hid (∀ w3 w7 p t S R S2 R2 z, Stg PAt SAt w w3 p t S R S2 R2 s1 G1 → Below w3.heap.size w3 w7 → ChsAt (fun j => w3.heap.size ≤ j) w7 z [⟨k, v, false⟩] → Calls Try.prog 8 #[t, z] w7 fun e w' => e = .returned (.int .i64 0) ∧ (∃ S' R' S2' R2', Stg PAt SAt w w' p t S' R' S2' R2' s2 G2 ∧ ∀ j, w3.heap.size ≤ j → j < w7.heap.size → (¬ S' j ∧ ¬ R' j) ∧ ¬ S2' j ∧ ¬ R2' j) ∧ Aside (fun j => j < w3.heap.size) w7 w') := fun w3 w7 p t S R S2 R2 z h hb hz => by
      have hold : ∀ j, (S j ∨ R j) ∨ S2 j ∨ R2 j → j < w3.heap.size := fun j hj => hj.elim (HP.old h.p j) (HS.old h.st j)
      refine ((h.below HP HS hb).commit HS hz (fun j hj => ⟨fun h3 => ?_, fun h3 => ?_⟩) (by simp) hh1 fun _ => ⟨hB1.live, by omega⟩).mono ?_
      · have := hold j (Or.inl (Or.inl h3)); omega
      · have := hold j (Or.inr (Or.inl h3)); omega
      · rintro e w' ⟨rfl, ⟨S', R', S2', R2', h3, h4⟩, h5⟩
        rw [hG2, hs2] at h3
        rw [hc1]
        refine ⟨rfl, ⟨S', R', S2', R2', h3, fun j hj1 hj2 => ?_⟩, h5.mono fun j _ hj => hold j (hj.elim (fun h => Or.inl (Or.inl h)) fun h => Or.inr (Or.inl h))⟩
        have hno : ¬ ((S' j ∨ R' j) ∨ S2' j ∨ R2' j) := fun hj => by
          rcases h4 j hj with h6 | h6
          · have := hold j h6; omega
          · omega
        exact ⟨⟨fun h => hno (Or.inl (Or.inl h)), fun h => hno (Or.inl (Or.inr h))⟩, fun h => hno (Or.inr (Or.inl h)), fun h => hno (Or.inr (Or.inr h))⟩
    have Hget : Hid (∀ w1 p t S R S2 R2, Stg PAt SAt w w1 p t S R S2 R2 s2 G2 → Calls Try.prog 9 #[t, .slice sx KN cx] w1 fun e w' => ∃ u, e = .returned (.tuple #[u, .bool true]) ∧ OwnB w' w1.heap.size u v ∧ Below w1.heap.size w1 w') := fun w1 p t S R S2 R2 h => by
      have := HS.get (.slice sx KN cx) k h.st ((unhide HX).below h.b) (by omega)
      rw [hp2, get_single] at this
      exact this
    have Hkeys : Hid (∀ w1 p t S R S2 R2, Stg PAt SAt w w1 p t S R S2 R2 s2 G2 → Calls Try.prog 11 #[t, .slice none 0 0] w1 fun e w' => ∃ u c g o su cu, e = .returned (.slice (some ⟨g, o, none⟩) 1 c) ∧ u = .slice su KN cu ∧ w'.cell? ⟨g, o, none⟩ = some u ∧ BytesAt w' u k ∧ (∀ j, u.ownBlock = some j → w1.heap.size ≤ j) ∧ FreeAt w' u KN ∧ Below w1.heap.size w1 w') := fun w1 p t S R S2 R2 h => by
      have := HS.keys (.slice none 0 0) [] h.st (bytes_nil _) (by simp)
      rw [hp2, keys_single] at this
      refine this.mono ?_
      rintro e w' ⟨z, vs, rfl, hz, hb⟩
      have hvl : vs.length = 1 := hz.len
      obtain ⟨u, rfl⟩ : ∃ u, vs = [u] := List.length_eq_one_iff.1 hvl
      obtain ⟨g, o, c, e, _, _, hcell⟩ := ValsAt.cell hz.row (by simp)
      obtain ⟨h1, h2, h3⟩ := hz.each 0 u k rfl rfl
      obtain ⟨su, cu, eu, _⟩ := bytes_open h1
      rw [hKN] at eu h3
      exact ⟨u, c, g, o, su, cu, by rw [e]; rfl, eu, by have := hcell 0 (by simp); rw [Nat.add_zero] at this; exact this, h1, h2, h3, hb⟩
    have Hsv : Hid (∀ w1 u, BytesAt w1 u v → Below w.heap.size w w1 → Calls Try.prog 10 #[u, .slice sy VN cy] w1 fun e w' => e = .returned (.bool true) ∧ Below w1.heap.size w1 w') := fun w1 u hu hb => by
      have := same_any w1 u (.slice sy VN cy) v v hu ((unhide HY).below hb) (by omega)
      rw [decide_eq_true rfl] at this
      exact this
    have Hsk : Hid (∀ w1 u, BytesAt w1 u k → Below w.heap.size w w1 → Calls Try.prog 10 #[u, .slice sx KN cx] w1 fun e w' => e = .returned (.bool true) ∧ Below w1.heap.size w1 w') := fun w1 u hu hb => by
      have := same_any w1 u (.slice sx KN cx) k k hu ((unhide HX).below hb) (by omega)
      rw [decide_eq_true rfl] at this
      exact this
    have hKb : KN ≤ 32 := by omega
    have hK1 : 1 ≤ KN := by omega
    have hVb : VN ≤ 1000 := by omega
    clear hx hy hKN hVN hB1 hrf hc1 hB2 hl1 hG2 hs2 hp2 hh1 hr0 ho1 hG1 hR hwl hbad
    go_enter Try.func3, Try.ntmps3
    go_upto_region 11 with (first
      | (go_at_call 5; refine (unhide Han).mono ?_; rintro e w1 ⟨rfl, hb1⟩; have HB1 := hide hb1; clear hb1)
      | (go_at_call 6; refine (unhide Hnew _ (unhide HB1)).mono ?_; rintro e w2 ⟨pa, rfl, S1, R1, h2⟩; have HO2 := hide h2; clear h2)
      | (go_at_call 7; refine (unhide Hop1 _ _ _ _ (unhide HO2)).mono ?_; rintro e w3 ⟨a3, rfl, S3, R3, S4, R4, h3⟩; have H3 := hide h3; clear h3))
    have HRa := hide (ownb_row w3)
    have HXa : Hid (BytesAt (w3.alloc (.cells #[] 5)) (.slice sx KN cx) k) := ((unhide HX).below (unhide H3).b).below ((Below.refl _ _).alloc (Nat.le_refl _) _)
    have HLa : Hid (([] : Bs).length + k.length ≤ 1073741824) := by show _ ≤ _; rw [unhide HKN]; simp; omega
    have HLb : Hid (([] : Bs).length + v.length ≤ 1073741824) := by show _ ≤ _; rw [unhide HVN]; simp; omega
    go_upto_region 12 with (first
      | (at_builtin; have _t := HRa; refine wpList_append_row rfl _ _ rfl (.slice (some ⟨w3.heap.size, 0, none⟩) 0 0) (.slice sx KN cx) [] k rfl (unhide HRa) rfl (unhide HXa) (unhide HLa) ?_
         intro va w5 hRa5
         rw [List.nil_append] at hRa5
         obtain ⟨sa, ca, ea⟩ := hRa5.own.form
         rw [unhide HKN] at ea
         subst ea
         have HRa5 := hide hRa5
         have HRb := hide (ownb_row w5)
         have HYb : Hid (BytesAt (w5.alloc (.cells #[] 5)) (.slice sy VN cy) v) := (((unhide HY).below (unhide H3).b).below hRa5.b).below ((Below.refl _ _).alloc (Nat.le_refl _) _)
         clear hRa5 HRa)
      | (at_builtin; have _t := HRb; refine wpList_append_row rfl _ _ rfl (.slice (some ⟨w5.heap.size, 0, none⟩) 0 0) (.slice sy VN cy) [] v rfl (unhide HRb) rfl (unhide HYb) (unhide HLb) ?_
         intro vb w6 hRb6
         rw [List.nil_append] at hRb6
         obtain ⟨sb, cb, eb⟩ := hRb6.own.form
         rw [unhide HVN] at eb
         subst eb
         have HRb6 := hide hRb6
         have HRa6 := hide ((unhide HRa5).call hRb6.b)
         clear hRb6 HRb))
    obtain ⟨W7, hW7⟩ : ∃ y, w6.alloc (.cells #[.slice sa KN ca, .slice sb VN cb, .bool false] 32) = y := ⟨_, rfl⟩
    have hb67 : Below w6.heap.size w6 W7 := by rw [← hW7]; exact (Below.refl _ _).alloc (Nat.le_refl _) _
    have hs35 := (unhide HRa5).b.size
    have hcv : ChV w3.heap.size w6 ⟨k, v, false⟩ (.slice sa KN ca) (.slice sb VN cb) := ⟨(unhide HRa6).bytes, (unhide HRb6).bytes, fun _ j hj => (World.ownsRow.lt (unhide HRa6).own j hj).1, fun _ j hj => Nat.le_trans hs35 (World.ownsRow.lt (unhide HRb6).own j hj).1⟩
    have HZ7 : Hid (ChsAt (fun j => w3.heap.size ≤ j) W7 (.slice (some ⟨w6.heap.size, 0, none⟩) 1 1) [⟨k, v, false⟩]) := by rw [← hW7]; exact chs_single hcv (unhide HRa6).b.size
    have HB37 : Hid (Below w3.heap.size w3 W7) := (unhide HRa6).b.trans (hb67.mono (unhide HRa6).b.size)
    have HFa7 : Hid (Fl W7 (.slice sa KN ca) KN) := by have := Fl.of (OwnB.below (unhide HRa6).own hb67); rw [unhide HKN] at this; exact this
    have HFb7 : Hid (Fl W7 (.slice sb VN cb) VN) := by have := Fl.of (OwnB.below (unhide HRb6).own hb67); rw [unhide HVN] at this; exact this
    have HAb : Hid (∀ j, (Value.slice sa KN ca).ownBlock = some j → w3.heap.size ≤ j ∧ j < w5.heap.size) := fun j hj => World.ownsRow.lt (unhide HRa5).own j hj
    have HBb : Hid (∀ j, (Value.slice sb VN cb).ownBlock = some j → w5.heap.size ≤ j ∧ j < w6.heap.size) := fun j hj => World.ownsRow.lt (unhide HRb6).own j hj
    have HS57 : Hid (w3.heap.size ≤ w5.heap.size ∧ w5.heap.size ≤ w6.heap.size ∧ w6.heap.size ≤ W7.heap.size) := ⟨hs35, (unhide HRb6).b.size, hb67.size⟩
    clear hb67 hs35 hcv
    go_upto_region 14 with (first
      | (go_at_call 8; refine (unhide Hco _ _ _ _ _ _ _ _ _ (unhide H3) (unhide HB37) (unhide HZ7)).mono ?_
         rintro e w8 ⟨rfl, ⟨S5, R5, S6, R6, h8, hno⟩, ha8⟩
         have H8 := hide h8
         have HNo := hide hno
         have HFa8 : Hid (Fl w8 (.slice sa KN ca) KN) := (unhide HFa7).aside ha8 fun j hj => by have := unhide HAb j hj; omega
         have HFb8 : Hid (Fl w8 (.slice sb VN cb) VN) := (unhide HFb7).aside ha8 fun j hj => by have := unhide HBb j hj; have := unhide HS57; omega
         clear h8 hno ha8))
    clear HX HXa HYb HRa5 HRa6 HRb6 HZ7 HB37 HFa7 HFb7 hW7
    go_wp2
    go_loopw [60] (fun ii wr => ∃ i : Nat, i ≤ KN ∧ ii = .int .i64 (i : Int) ∧ Hid (Fl wr (.slice sa KN ca) KN) ∧ Hid (Aside (fun j => (Value.slice sa KN ca).ownBlock = some j) w8 wr)) (fun ii _ => KN - (intOf ii).toNat)
    case atStart => exact ⟨0, by omega, rfl, unhide HFa8, Aside.refl _ _⟩
    case round =>
      obtain ⟨i, hi, rfl, HF, HA⟩ := hrel
      by_cases hlt : i < KN
      · obtain ⟨g, o, ux, uy, rfl, c1, z1, hxor, hF2, hA2⟩ := (unhide HF).poke hlt
        have f1 : decide ((i : Int) < (KN : Int)) = true := by simp; omega
        have f1n : decide (i < KN) = true := by simp; omega
        have j0 : (0 : Int) ≤ (i : Int) := by omega
        have j1 : (i : Int) < (KN : Int) := by omega
        obtain ⟨pb, hpb⟩ : ∃ q, ux.toNat = q := ⟨_, rfl⟩
        obtain ⟨qb, hqb⟩ : ∃ q, uy.toNat = q := ⟨_, rfl⟩
        rw [hpb] at c1 hxor
        rw [hqb] at hxor hF2 hA2
        obtain ⟨W2, hW2⟩ : ∃ y, wr.setCell ⟨g, o + i, none⟩ (.int .u8 (qb : Int)) = y := ⟨_, rfl⟩
        rw [hW2] at hF2 hA2
        have HF2 := hide hF2
        have HA2 := hide ((unhide HA).trans hA2 fun _ _ h => h)
        clear hF2 hA2 hpb hqb HF HA
        go_wp2
        refine ⟨⟨i + 1, by omega, ?_, HF2, HA2⟩, ?_⟩
        · simp
        · simp [intOf]; omega
      · have hiN : KN = i := by omega
        subst hiN
        have f1 : decide ((KN : Int) < (KN : Int)) = false := by simp
        have h8a := (unhide H8).kept HP HS (unhide HA) (fun j hj => unhide HNo j (unhide HAb j hj).1 (by have := unhide HAb j hj; have := unhide HS57; omega)) fun j hj => Nat.le_trans (unhide H3).b.size (unhide HAb j hj).1
        have H8a := hide h8a
        have HFb9 : Hid (Fl wr (.slice sb VN cb) VN) := (unhide HFb8).aside (unhide HA) fun j hj h => by have := unhide HAb j h; have := unhide HBb j hj; omega
        clear h8a HF HA HFa8 HFb8 H8
        go_wp2
        rename World => wo
        go_loopw [72] (fun ii wr => ∃ i : Nat, i ≤ VN ∧ ii = .int .i64 (i : Int) ∧ Hid (Fl wr (.slice sb VN cb) VN) ∧ Hid (Aside (fun j => (Value.slice sb VN cb).ownBlock = some j) wo wr)) (fun ii _ => VN - (intOf ii).toNat)
        case atStart => exact ⟨0, by omega, rfl, unhide HFb9, Aside.refl _ _⟩
        case round =>
          obtain ⟨i, hi, rfl, HF, HA⟩ := hrel
          by_cases hlt : i < VN
          · obtain ⟨g, o, ux, uy, rfl, c1, z1, hxor, hF2, hA2⟩ := (unhide HF).poke hlt
            have f1 : decide ((i : Int) < (VN : Int)) = true := by simp; omega
            have f1n : decide (i < VN) = true := by simp; omega
            have j0 : (0 : Int) ≤ (i : Int) := by omega
            have j1 : (i : Int) < (VN : Int) := by omega
            obtain ⟨pb, hpb⟩ : ∃ q, ux.toNat = q := ⟨_, rfl⟩
            obtain ⟨qb, hqb⟩ : ∃ q, uy.toNat = q := ⟨_, rfl⟩
            rw [hpb] at c1 hxor
            rw [hqb] at hxor hF2 hA2
            obtain ⟨W2, hW2⟩ : ∃ y, wr.setCell ⟨g, o + i, none⟩ (.int .u8 (qb : Int)) = y := ⟨_, rfl⟩
            rw [hW2] at hF2 hA2
            have HF2 := hide hF2
            have HA2 := hide ((unhide HA).trans hA2 fun _ _ h => h)
            clear hF2 hA2 hpb hqb HF HA
            go_wp2
            refine ⟨⟨i + 1, by omega, ?_, HF2, HA2⟩, ?_⟩
            · simp
            · simp [intOf]; omega
          · have hiN : VN = i := by omega
            subst hiN
            have f1 : decide ((VN : Int) < (VN : Int)) = false := by simp
            have h8b := (unhide H8a).kept HP HS (unhide HA) (fun j hj => unhide HNo j (by have := unhide HBb j hj; have := unhide HS57; omega) (by have := unhide HBb j hj; have := unhide HS57; omega)) fun j hj => Nat.le_trans (unhide H3).b.size (by have := unhide HBb j hj; have := unhide HS57; omega)
            have H8b := hide h8b
            clear h8b HF HA HFb9 H8a HNo HAb HBb HS57 H3
            rename World => wq
            go_upto_region 27 with (first
              | (go_at_call 9; refine (unhide Hget _ _ _ _ _ _ _ (unhide H8b)).mono ?_; rintro e w10 ⟨u10, rfl, ho10, hb10⟩; obtain ⟨s10, c10, e10⟩ := ho10.form; rw [unhide HVN] at e10; subst e10; have HO10 := hide ho10; have H10 := hide ((unhide H8b).below HP HS hb10); clear ho10 hb10)
              | (go_at_call 10; refine (unhide Hsv _ _ (unhide HO10).bytes (unhide H10).b).mono ?_; rintro e w11 ⟨rfl, hb11⟩; have H11 := hide ((unhide H10).below HP HS hb11); have HO11 := hide (OwnB.below (unhide HO10) hb11); clear hb11))
            have HF11 : Hid (Fl w11 (.slice s10 VN c10) VN) := by have := Fl.of (unhide HO11); rw [unhide HVN] at this; exact this
            have HNo11 : Hid (∀ j, (Value.slice s10 VN c10).ownBlock = some j → ((¬ S5 j ∧ ¬ R5 j) ∧ ¬ S6 j ∧ ¬ R6 j) ∧ w.heap.size ≤ j) := fun j hj => ⟨(unhide H8b).new HP HS (World.ownsRow.lt (unhide HO11) j hj).1, Nat.le_trans (unhide H8b).b.size (World.ownsRow.lt (unhide HO11) j hj).1⟩
            clear HO10 H10 HO11 H8b
            go_wp2
            go_loopw [98] (fun ii wr => ∃ i : Nat, i ≤ VN ∧ ii = .int .i64 (i : Int) ∧ Hid (Fl wr (.slice s10 VN c10) VN) ∧ Hid (Aside (fun j => (Value.slice s10 VN c10).ownBlock = some j) w11 wr)) (fun ii _ => VN - (intOf ii).toNat)
            case atStart => exact ⟨0, by omega, rfl, unhide HF11, Aside.refl _ _⟩
            case round =>
              obtain ⟨i, hi, rfl, HF, HA⟩ := hrel
              by_cases hlt : i < VN
              · obtain ⟨g, o, ux, uy, rfl, c1, z1, hxor, hF2, hA2⟩ := (unhide HF).poke hlt
                have f1 : decide ((i : Int) < (VN : Int)) = true := by simp; omega
                have f1n : decide (i < VN) = true := by simp; omega
                have j0 : (0 : Int) ≤ (i : Int) := by omega
                have j1 : (i : Int) < (VN : Int) := by omega
                obtain ⟨pb, hpb⟩ : ∃ q, ux.toNat = q := ⟨_, rfl⟩
                obtain ⟨qb, hqb⟩ : ∃ q, uy.toNat = q := ⟨_, rfl⟩
                rw [hpb] at c1 hxor
                rw [hqb] at hxor hF2 hA2
                obtain ⟨W2, hW2⟩ : ∃ y, wr.setCell ⟨g, o + i, none⟩ (.int .u8 (qb : Int)) = y := ⟨_, rfl⟩
                rw [hW2] at hF2 hA2
                have HF2 := hide hF2
                have HA2 := hide ((unhide HA).trans hA2 fun _ _ h => h)
                clear hF2 hA2 hpb hqb HF HA
                go_wp2
                refine ⟨⟨i + 1, by omega, ?_, HF2, HA2⟩, ?_⟩
                · simp
                · simp [intOf]; omega
              · have hiN : VN = i := by omega
                subst hiN
                have f1 : decide ((VN : Int) < (VN : Int)) = false := by simp
                have h12 := (unhide H11).kept HP HS (unhide HA) (fun j hj => (unhide HNo11 j hj).1) fun j hj => (unhide HNo11 j hj).2
                have H12 := hide h12
                clear h12 HF HA HF11 H11 HNo11
                rename World => w12
                go_upto_region 33 with (first
                  | (go_at_call 11; refine (unhide Hkeys _ _ _ _ _ _ _ (unhide H12)).mono ?_; rintro e w13 ⟨u13, c13, g13, o13, su, cu, rfl, rfl, hc13, hu13, hn13, hf13, hb13⟩; have HC13 := hide hc13; have HU13 := hide hu13; have HN13 := hide hn13; have HF13 := hide hf13; have H13 := hide ((unhide H12).below HP HS hb13); clear hc13 hu13 hn13 hf13 hb13))
                have c13' := unhide HC13
                go_upto_region 35 with (first
                  | (go_at_call 10; refine (unhide Hsk _ _ (unhide HU13) (unhide H13).b).mono ?_; rintro e w14 ⟨rfl, hb14⟩; have H14 := hide ((unhide H13).below HP HS hb14); have HC14 := hide (cell_aside (S := none_) (unhide HC13) (Aside.of_below hb14) (fun h => h)); have HU14 := hide ((unhide HU13).below hb14); have HF14 : Hid (Fl w14 (.slice su KN cu) KN) := Fl.aside (S := none_) ⟨k, unhide HKN, unhide HU13, unhide HF13⟩ (Aside.of_below hb14) (fun _ _ h => h); clear hb14))
                obtain ⟨g, o, ux, uy, rfl, c1, z1, hxor, hF2, hA2⟩ := (unhide HF14).poke (i := 0) (by omega)
                rw [Nat.add_zero] at c1 z1 hF2 hA2
                obtain ⟨pb, hpb⟩ : ∃ q, ux.toNat = q := ⟨_, rfl⟩
                obtain ⟨qb, hqb⟩ : ∃ q, uy.toNat = q := ⟨_, rfl⟩
                rw [hpb] at c1 hxor
                rw [hqb] at hxor hF2 hA2
                obtain ⟨W15, hW15⟩ : ∃ y, w14.setCell ⟨g, o, none⟩ (.int .u8 (qb : Int)) = y := ⟨_, rfl⟩
                rw [hW15] at hF2 hA2
                have H15 := hide ((unhide H14).kept HP HS hA2 (fun j hj => (unhide H12).new HP HS (unhide HN13 j hj)) fun j hj => Nat.le_trans (unhide H12).b.size (unhide HN13 j hj))
                have c14' := unhide HC14
                have jk : (0 : Int) < (KN : Int) := by omega
                clear hF2 hA2 hpb hqb c13'
                go_upto_region 38 with (first
                  | (go_at_call 9; refine (unhide Hget _ _ _ _ _ _ _ (unhide H15)).mono ?_; rintro e w16 ⟨u16, rfl, ho16, hb16⟩; obtain ⟨s16, c16, e16⟩ := ho16.form; rw [unhide HVN] at e16; subst e16; have HO16 := hide ho16.bytes; have H16 := hide ((unhide H15).below HP HS hb16); clear ho16 hb16)
                  | (go_at_call 11; refine (unhide Hkeys _ _ _ _ _ _ _ (unhide H16)).mono ?_; rintro e w17 ⟨u17, c17, g17, o17, su', cu', rfl, rfl, hc17, hu17, _, _, hb17⟩; have HC17 := hide hc17; have HU17 := hide hu17; have HO17 := hide ((unhide HO16).below hb17); have H17 := hide ((unhide H16).below HP HS hb17); clear hc17 hu17 hb17))
                have c17' := unhide HC17
                clear c14' c1 z1
                go_wp2_with (first
                  | (go_at_call_of 10 (Value.slice sy VN cy); refine (unhide Hsv _ _ (unhide HO17) (unhide H17).b).mono ?_; rintro e w18 ⟨rfl, hb18⟩; have c18' := cell_aside (S := none_) (unhide HC17) (Aside.of_below hb18) (fun h => h); have HU18 := hide ((unhide HU17).below hb18); have H18 := hide ((unhide H17).below HP HS hb18); clear hb18)
                  | (go_at_call_of 10 (Value.slice sx KN cx); refine (unhide Hsk _ _ (unhide HU18) (unhide H18).b).mono ?_; rintro e w19 ⟨rfl, hb19⟩; have H19 := hide ((unhide H18).below HP HS hb19); clear hb19))
                go_ret
                exact ⟨rfl, (unhide H19).b⟩
end
end Go.Proofs.Ytbjgknoipbekoaa
