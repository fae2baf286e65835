/-
  The walk of the statement DerNumbers.
-/
import Derived.Test.YtngkidlgcdofhabDoorNum9
import Derived.Test.YtngkidlgcdofhabDoorMake9
import Derived.Test.YtngkidlgcdofhabDoorAnc9
import Derived.Test.YtngkidlgcdofhabDoorCut9
import Derived.Test.YtngkidlgcdofhabDoorJoin9
import Derived.Test.YtngkidlgcdofhabDoorSame9
namespace Go.Proofs.YtngkidlgcdofhabDoor
open Go.RowKit
/-- The bytes that are left. -/
structure LeftAt (w : World) (n : Int) (s : Option Addr) (L c : Nat) (l : Bs) : Prop where
  len : l.length = L
  pos : 1 ≤ L
  le : L ≤ 8
  at_ : BytesAt w (.slice s L c) l
  sgn : Sgn n l
theorem LeftAt.rest {w : World} {n : Int} {s : Option Addr} {L c : Nat} {l : Bs} (h : LeftAt w n s L c l) (h1 : 1 < L) (h2 : ((l.getD 0 0).toNat = 0 ∧ (l.getD 1 0).toNat < 128) ∨ ((l.getD 0 0).toNat = 255 ∧ 128 ≤ (l.getD 1 0).toNat)) : LeftAt w n (cutAt s c 1) (L - 1) (c - 1) (l.drop 1) := by
  have hl := h.len
  have ha := h.at_
  rw [← hl] at ha
  have hr := bytes_rest ha 1 (by omega)
  rw [hl] at hr
  refine ⟨by rw [List.length_drop]; omega, by omega, by have := h.le; omega, hr, ?_⟩
  have hs := h.sgn
  have e : (l.drop 1).getD 0 0 = l.getD 1 0 := by rw [List.getD_eq_getElem?_getD, List.getElem?_drop, List.getD_eq_getElem?_getD]
  unfold Sgn at hs ⊢
  rw [e]
  omega
theorem LeftAt.cells {w : World} {n : Int} {s : Option Addr} {L c : Nat} {l : Bs} (h : LeftAt w n s L c l) : ∃ b o, s = some ⟨b, o, none⟩ ∧ ∀ k, k < L → w.cell? ⟨b, o + k, none⟩ = some (.int .u8 ((l.getD k 0).toNat : Int)) := by
  have hl := h.len
  have ha := h.at_
  rw [← hl] at ha
  obtain ⟨sp, cc, e, _, _, hc⟩ := bytes_open ha
  simp only [Value.slice.injEq] at e
  obtain ⟨rfl, _, _⟩ := e
  obtain ⟨b, o, e2, _, hcell⟩ := hc (fun e => by rw [e] at hl; simp at hl; have := h.pos; omega)
  rw [hl] at hcell
  exact ⟨b, o, e2, hcell⟩
set_option maxRecDepth 100000 in
set_option maxHeartbeats 4000000 in
theorem numbers_true {R : World → Prop} (C : Der R) (w0 : World) (hR : R w0) (n : Int) (hn1 : -9223372036854775808 ≤ n) (hn2 : n ≤ 9223372036854775807) (en : Bool) :
    Calls Tryd.prog 5 #[.int .i64 n, .bool en] w0 fun e w' => e = .returned (.bool true) ∧ Below w0.heap.size w0 w' := by
  have HC := hide C
  have HR : Hid (∀ w, Below w0.heap.size w0 w → R w) := fun w hb => C.below _ _ hR hb
  have Hanc := hide (anchor_any C w0 hR)
  clear C hR
  go_enter Tryd.func5, Tryd.ntmps5
  go_wp2_with fail
  refine (unhide Hanc).mono ?_
  rintro e w1 ⟨rfl, hb1⟩
  have Hb1 := hide hb1
  clear hb1 Hanc
  have HW0 : Hid (Row w1 w1 (.slice none 0 0) (numTo n 0)) := ⟨ownb_nil _ _, Below.refl _ _⟩
  go_wp2
  go_loopw [5, 6] (fun vv ii wr => ∃ (j : Nat) (s : Option Addr) (cp : Nat), j ≤ 8 ∧ ii = .int .i64 (56 - 8 * (j : Int)) ∧ vv = .slice s j cp ∧ Hid (Row w1 wr (.slice s j cp) (numTo n j))) (fun _ ii _ => ((intOf ii) + 8).toNat)
  case atStart => exact ⟨0, none, 0, by omega, rfl, rfl, HW0⟩
  case round =>
    obtain ⟨j, s, cp, hj, rfl, rfl, HRo⟩ := hrel
    by_cases hlt : j < 8
    · obtain ⟨K, hK⟩ : ∃ K : Nat, 56 - 8 * j = K := ⟨_, rfl⟩
      have hKi : 56 - 8 * (j : Int) = (K : Int) := by omega
      have u1 : IntKind.u8.wrap (n / 2 ^ K) = ((byteAt n j).toNat : Int) := by rw [byteAt_toNat, hK, IntKind.wrap_u8']
      obtain ⟨A1, hA1⟩ : ∃ A1 : Nat, (byteAt n j).toNat = A1 := ⟨_, rfl⟩
      rw [hA1] at u1
      have HY : Hid (BytesAt (wr.alloc (.cells #[.int .u8 (A1 : Int)] 5)) (.slice (some ⟨wr.heap.size, 0, none⟩) 1 1) [byteAt n j]) := by
        have := bytes_new wr [byteAt n j]
        simp only [List.map_cons, List.map_nil, bv, hA1] at this
        exact this
      have HRo2 := hide ((unhide HRo).lit (.cells #[.int .u8 (A1 : Int)] 5))
      have Hll : Hid ((numTo n j).length + [byteAt n j].length ≤ 1073741824) := by show _ ≤ _; rw [len_numTo]; simp; omega
      have K0 : (0 : Int) ≤ (K : Int) := by omega
      have K0d : decide ((0 : Int) ≤ (K : Int)) = true := by simp
      have Kb : (K : Int) ≤ 56 := by omega
      have Kb2 : K ≤ 56 := by omega
      rw [hKi]
      clear hA1 HRo HW0 hK
      go_wp2_with (first
        | (at_builtin; refine wpList_append_row rfl _ _ rfl (.slice s j cp) (.slice (some ⟨wr.heap.size, 0, none⟩) 1 1) (numTo n j) [byteAt n j] rfl (unhide HRo2) rfl (unhide HY) (unhide Hll) ?_
           intro v5 w5 hR5
           obtain ⟨s5, c5, rfl⟩ := hR5.own.form
           have e5 : (numTo n j ++ [byteAt n j]).length = j + 1 := len_numTo n (j + 1)
           rw [e5] at hR5
           rw [e5]
           have HR5 : Hid (Row w1 w5 (.slice s5 (j + 1) c5) (numTo n (j + 1))) := hR5
           clear hR5 e5))
      go_roundw
      case rel =>
        first
          | exact ⟨j + 1, s5, c5, by omega, by rw [← hKi]; go_num, rfl, HR5⟩
          | ((repeat apply Exists.intro); exact ⟨⟨j + 1, s5, c5, by omega, by rw [← hKi]; go_num, rfl, HR5⟩, rfl⟩)
      case measure => simp [intOf]; omega
    · obtain rfl : j = 8 := by omega
      have Hb2 := hide ((unhide Hb1).trans ((unhide HRo).b.mono (unhide Hb1).size))
      have HL0 : Hid (LeftAt wr n s 8 cp (numTo n 8)) := ⟨len_numTo n 8, by omega, by omega, (unhide HRo).bytes, sgn_all hn1 hn2⟩
      clear HRo HW0
      have Hsh : Hid ((0 ≤ n ∧ n / 9223372036854775808 = 0) ∨ (n < 0 ∧ n / 9223372036854775808 = -1)) := by
        show _ ∨ _
        omega
      have HnB : Hid (n ≤ 9223372036854775807) := hn2
      clear hlt hj hn1 hn2
      go_wp2
      rename World => w2
      go_loopw [5] (fun vv wr => ∃ (s : Option Addr) (L c : Nat) (l : Bs), vv = .slice s L c ∧ wr = w2 ∧ Hid (LeftAt w2 n s L c l)) (fun vv _ => match vv with | .slice _ L _ => L | _ => 0)
      case atStart => exact ⟨s, 8, cp, numTo n 8, rfl, rfl, HL0⟩
      case round =>
        clear HL0
        obtain ⟨s, L, c, l, rfl, rfl, HL⟩ := hrel
        obtain ⟨b, o, rfl, hcell⟩ := (unhide HL).cells
        have hLp := (unhide HL).pos
        have hL8 := (unhide HL).le
        have hcase : (L = 1) ∨ (1 < L ∧ (l.getD 0 0).toNat = 0 ∧ 128 ≤ (l.getD 1 0).toNat) ∨ (1 < L ∧ (l.getD 0 0).toNat = 255 ∧ (l.getD 1 0).toNat < 128) ∨ (1 < L ∧ (l.getD 0 0).toNat ≠ 0 ∧ (l.getD 0 0).toNat ≠ 255) ∨ (1 < L ∧ (l.getD 0 0).toNat = 0 ∧ (l.getD 1 0).toNat < 128) ∨ (1 < L ∧ (l.getD 0 0).toNat = 255 ∧ 128 ≤ (l.getD 1 0).toNat) := by omega
        have Hright : Hid ((L = 1 ∨ (1 < L ∧ (l.getD 0 0).toNat = 0 ∧ 128 ≤ (l.getD 1 0).toNat) ∨ (1 < L ∧ (l.getD 0 0).toNat = 255 ∧ (l.getD 1 0).toNat < 128) ∨ (1 < L ∧ (l.getD 0 0).toNat ≠ 0 ∧ (l.getD 0 0).toNat ≠ 255)) → rightP 2 l = true ∧ rightP 10 l = true) := fun h => by
          have hl := (unhide HL).len
          have key : l.length = 1 ∨ ¬ ((l.getD 0 0).toNat = 0 ∧ (l.getD 1 0).toNat < 128) ∧ ¬ ((l.getD 0 0).toNat = 255 ∧ 128 ≤ (l.getD 1 0).toNat) := by omega
          exact ⟨right_num (Or.inl rfl) (by omega) key, right_num (Or.inr rfl) (by omega) key⟩
        have Hrest : Hid (1 < L → ((l.getD 0 0).toNat = 0 ∧ (l.getD 1 0).toNat < 128) ∨ ((l.getD 0 0).toNat = 255 ∧ 128 ≤ (l.getD 1 0).toNat) → LeftAt wr n (cutAt (some ⟨b, o, none⟩) c 1) (L - 1) (c - 1) (l.drop 1)) := fun h1 h2 => (unhide HL).rest h1 h2
        have c0 := hcell 0 (by omega)
        have c1 : 1 < L → wr.cell? ⟨b, o + 1, none⟩ = some (.int .u8 ((l.getD 1 0).toNat : Int)) := fun h => hcell 1 h
        rw [Nat.add_zero] at c0
        have lq := (l.getD 1 0).toNat_lt
        have lp := (l.getD 0 0).toNat_lt
        obtain ⟨p, hp⟩ : ∃ p, (l.getD 0 0).toNat = p := ⟨_, rfl⟩
        obtain ⟨q, hq⟩ : ∃ q, (l.getD 1 0).toNat = q := ⟨_, rfl⟩
        rw [hp, hq] at hcase Hright Hrest
        rw [hp] at c0 lp
        rw [hq] at c1 lq
        clear hp hq hcell
        by_cases hst : 1 < L ∧ ((p = 0 ∧ q < 128) ∨ (p = 255 ∧ 128 ≤ q))
        · obtain ⟨h1, h2⟩ := hst
          have c1' := c1 h1
          have d0 : decide ((1 : Int) < (L : Int)) = true := by simp; omega
          have d0n : decide (1 < L) = true := by simp; omega
          have hsl : ∀ w, (Instr.sliceAt 23 (.slice (some ⟨b, o, none⟩) L c) (some (.int .i64 1)) none none).run Tryd.prog w = .ok (.slice (cutAt (some ⟨b, o, none⟩) c 1) (L - 1) (c - 1)) w := fun w => slice_rest (some ⟨b, o, none⟩) L c 1 (by omega) w
          have HL2 := hide (unhide Hrest h1 h2)
          have l0 : (0 : Int) < (L : Int) := by omega
          have l1 : (1 : Int) < (L : Int) := by omega
          clear Hrest Hright hcase c1
          rcases h2 with ⟨rfl, h3⟩ | ⟨rfl, h3⟩
          · have f1 : decide ((q : Int) < 128) = true := by simp; omega
            have f1n : decide (q < 128) = true := by simp; omega
            go_wp2
            go_roundw
            case rel =>
              first
                | exact ⟨_, L - 1, c - 1, l.drop 1, rfl, trivial, HL2⟩
                | exact ⟨_, L - 1, c - 1, l.drop 1, rfl, rfl, HL2⟩
                | ((repeat apply Exists.intro); exact ⟨⟨_, L - 1, c - 1, l.drop 1, rfl, trivial, HL2⟩, rfl⟩)
                | ((repeat apply Exists.intro); exact ⟨⟨_, L - 1, c - 1, l.drop 1, rfl, rfl, HL2⟩, rfl⟩)
            case measure => simp; omega
          · have f1 : decide ((128 : Int) ≤ (q : Int)) = true := by simp; omega
            have f1n : decide (128 ≤ q) = true := by simp; omega
            go_wp2
            go_roundw
            case rel =>
              first
                | exact ⟨_, L - 1, c - 1, l.drop 1, rfl, trivial, HL2⟩
                | exact ⟨_, L - 1, c - 1, l.drop 1, rfl, rfl, HL2⟩
                | ((repeat apply Exists.intro); exact ⟨⟨_, L - 1, c - 1, l.drop 1, rfl, trivial, HL2⟩, rfl⟩)
                | ((repeat apply Exists.intro); exact ⟨⟨_, L - 1, c - 1, l.drop 1, rfl, rfl, HL2⟩, rfl⟩)
            case measure => simp; omega
        · have Hrt := hide (unhide Hright (by omega))
          have Htg : Hid (∀ t : Nat, t = 2 ∨ t = 10 → rightP t l = true) := fun t ht => by
            rcases ht with rfl | rfl
            · exact (unhide Hrt).1
            · exact (unhide Hrt).2
          have hex : (L = 1) ∨ (1 < L ∧ p = 0 ∧ 128 ≤ q) ∨ (1 < L ∧ p = 255 ∧ q < 128) ∨ (1 < L ∧ p ≠ 0 ∧ p ≠ 255) := by omega
          obtain ⟨t, ht⟩ : ∃ t : Nat, (if en = true then 10 else 2) = t := ⟨_, rfl⟩
          have Ht2 : Hid (t = 2 ∨ t = 10) := by
            rw [← ht]
            cases en
            · exact Or.inl rfl
            · exact Or.inr rfl
          have HLL : Hid (l.length = L ∧ L ≤ 8 ∧ 1 ≤ L) := ⟨(unhide HL).len, hL8, hLp⟩
          have Htop := hide (top_num (unhide Ht2) (l := l) (by have := unhide HLL; omega) (unhide Htg t (unhide Ht2)))
          have Hrd0 := hide (read_written (unhide Htop))
          have Hno : Hid (∀ sb : UInt8, sb.toNat = (if 0 ≤ n then 0 else 255) → writeTop formD (.mk 0 t false (sb :: l) []) = .no 24) := fun sb hs => top_num_no (unhide Ht2) (wrong_num (unhide Ht2) (by have := unhide HLL; omega) (unhide HL).sgn sb hs)
          have hb3 : Below wr.heap.size wr (wr.alloc (.cells #[.int .i64 0, .int .i64 (t : Int), .bool false, .slice (some ⟨b, o, none⟩) L c, .slice none 0 0] 26)) := (Below.refl _ _).alloc (Nat.le_refl _) _
          have hc3 : CellsAt (wr.alloc (.cells #[.int .i64 0, .int .i64 (t : Int), .bool false, .slice (some ⟨b, o, none⟩) L c, .slice none 0 0] 26)) wr.heap.size 0 (dcells 0 t false (.slice (some ⟨b, o, none⟩) L c) (.slice none 0 0)) := cells_new wr _ 26
          obtain ⟨a0, a1, a2, a3, a4⟩ := hc3.five0
          have Hb3 := hide ((unhide Hb2).trans (hb3.mono (unhide Hb2).size))
          have HXl : Hid (∀ w, Below wr.heap.size wr w → BytesAt w (.slice (some ⟨b, o, none⟩) L c) l) := fun w hb => (unhide HL).at_.below hb
          have Hw := hide ((unhide HC).write _ _ _ _ (unhide HR _ (unhide Hb3)) (leaf_at (unhide HXl _ hb3) (by have := unhide HLL; omega) 0 (t : Int) false) (by simp only [weight, weights]; have := unhide HLL; omega))
          rw [unhide Htop] at Hw
          simp only [errOf, bytesOf] at Hw
          unfold dcells at Hw
          have Hb23 := hide hb3
          clear hb3 hc3 hst hcase Hright Hrest HL Htop Hrt Htg hLp hL8
          cases en with
          | false =>
            obtain rfl : 2 = t := by simpa using ht
            rcases hex with h1 | ⟨h1, rfl, h3⟩ | ⟨h1, rfl, h3⟩ | ⟨h1, h2, h3⟩
            · have d0 : decide ((1 : Int) < (L : Int)) = false := by simp; omega
              have d0n : decide (1 < L) = false := by simp; omega
              clear h1
              clear c1
              go_wp2_with fail
              refine (unhide Hw).mono ?_
              rintro e w4 ⟨x4, rfl, hO4, hb4⟩
              have HX4 := hide hO4.bytes
              obtain ⟨p4, q4, rfl⟩ := hO4.form
              have Hb24 := hide ((unhide Hb23).trans (hb4.mono (unhide Hb23).size))
              have Hb4 := hide ((unhide Hb3).trans (hb4.mono (unhide Hb3).size))
              have Hrd := hide ((unhide HC).read w4 _ _ (unhide HR w4 (unhide Hb4)) (unhide HX4) (by
                have h1 := unhide HLL
                have h2 : (lenB l.length).length = 1 := by unfold lenB; rw [if_pos (by omega)]; rfl
                have h3 := len_tagB_le 0 2 false
                simp only [List.length_append, h2]
                omega))
              rw [unhide Hrd0] at Hrd
              simp only [errOf, valOf] at Hrd
              obtain ⟨NB, hNB⟩ : ∃ NB, (tagB 0 2 false ++ lenB l.length ++ l).length = NB := ⟨_, rfl⟩
              rw [hNB] at Hrd ⊢
              clear hO4 hb4 Hw a0 a1 a2 a3 a4 HX4 hNB
              go_wp2_with fail
              refine (unhide Hrd).mono ?_
              rintro e w6 ⟨cs6, rfl, ⟨n6, hv6⟩, hb6⟩
              have HV6 : Hid (∀ s1 c1 s2 c2, cs6 = dcells 0 2 false (.slice s1 l.length c1) (.slice s2 0 c2) → BytesAt w6 (.slice s1 l.length c1) l) := fun s1 c1 s2 c2 ee => by
                cases n6 with
                | zero => exact hv6.elim
                | succ n6 =>
                  obtain ⟨xb, sk, ck, e2, hx, _⟩ := hv6
                  rw [ee] at e2
                  simp only [dcells, DV.cls, DV.tag, DV.made, DV.kids, List.length_nil, List.cons.injEq, and_true, true_and] at e2
                  obtain ⟨_, rfl, _⟩ := e2
                  exact hx
              obtain ⟨r1, t1, r2, t2, rfl⟩ := hv6.form
              simp only [DV.cls, DV.tag, DV.made, DV.bytes, DV.kids, List.length_nil]
              have HX6 := hide (unhide HV6 r1 t1 r2 t2 rfl)
              have hlL := (unhide HLL).1
              rw [hlL] at HX6 ⊢
              unfold dcells
              have Hb26 := hide ((unhide Hb24).trans (hb6.mono (unhide Hb24).size))
              have Hb6 := hide ((unhide Hb4).trans (hb6.mono (unhide Hb4).size))
              obtain ⟨Tb, hTb⟩ : ∃ Tb, w6.heap.size = Tb := ⟨_, rfl⟩
              have HTb : Hid (CellsAt (w6.alloc (.cells #[.int .i64 0, .int .i64 2, .bool false, .slice r1 L t1, .slice r2 0 t2] 26)) Tb 0 (dcells 0 2 false (.slice r1 L t1) (.slice r2 0 t2))) := by rw [← hTb]; exact cells_new w6 _ 26
              obtain ⟨w7, hw7⟩ : ∃ w7, w6.alloc (.cells #[.int .i64 0, .int .i64 2, .bool false, .slice r1 L t1, .slice r2 0 t2] 26) = w7 := ⟨_, rfl⟩
              have hb7 : Below w6.heap.size w6 w7 := by rw [← hw7]; exact (Below.refl _ _).alloc (Nat.le_refl _) _
              rw [hw7] at HTb
              have HX7 := hide ((unhide HX6).below hb7)
              have Hb27 := hide ((unhide Hb26).trans (hb7.mono (unhide Hb26).size))
              have Hb7 := hide ((unhide Hb6).trans (hb7.mono (unhide Hb6).size))
              clear hb6 hb7 hv6 HV6 Hrd HX6 hlL
              obtain ⟨sb, S, hS, hSn, hSw⟩ : ∃ (sb : UInt8) (S : Nat), sb.toNat = S ∧ S = (if 0 ≤ n then 0 else 255) ∧ IntKind.u8.wrap (n / 9223372036854775808) = (S : Int) := by
                rcases unhide Hsh with ⟨h0, h1⟩ | ⟨h0, h1⟩
                · exact ⟨0, 0, rfl, by rw [if_pos h0], by rw [h1]; rfl⟩
                · exact ⟨255, 255, rfl, by rw [if_neg (by omega)], by rw [h1]; rfl⟩
              have Hno2 : Hid (writeTop formD (.mk 0 2 false (sb :: l) []) = .no 24) := unhide Hno sb (by rw [hS, hSn])
              have hb8 : Below w7.heap.size w7 (w7.alloc (.cells #[.int .u8 (S : Int)] 5)) := (Below.refl _ _).alloc (Nat.le_refl _) _
              have hY8 : BytesAt (w7.alloc (.cells #[.int .u8 (S : Int)] 5)) (.slice (some ⟨w7.heap.size, 0, none⟩) 1 1) [sb] := by
                have := bytes_new w7 [sb]
                simp only [List.map_cons, List.map_nil, bv, hS] at this
                exact this
              have Hjn := hide (join_any _ _ _ [sb] l hY8 (unhide HXl _ ((unhide Hb27).trans (hb8.mono (unhide Hb27).size))) (by have := unhide HLL; simp; omega))
              have Hb78 := hide hb8
              clear hS hSn hb8 hY8
              go_wp2_with fail
              refine (unhide Hjn).mono ?_
              rintro e w9 ⟨x9, rfl, hR9⟩
              have HX9 := hide hR9.bytes
              obtain ⟨p9, q9, rfl⟩ := hR9.own.form
              have el9 : ([sb] ++ l).length = L + 1 := by have := (unhide HLL).1; simp; omega
              have Hb79 := hide ((unhide Hb78).trans (hR9.b.mono (unhide Hb78).size))
              rw [el9] at HX9 ⊢
              have hb10 : Below w9.heap.size w9 (w9.alloc (.cells #[.int .i64 0, .int .i64 2, .bool false, .slice p9 (L + 1) q9, .slice none 0 0] 26)) := (Below.refl _ _).alloc (Nat.le_refl _) _
              have hc10 : CellsAt (w9.alloc (.cells #[.int .i64 0, .int .i64 2, .bool false, .slice p9 (L + 1) q9, .slice none 0 0] 26)) w9.heap.size 0 (dcells 0 2 false (.slice p9 (L + 1) q9) (.slice none 0 0)) := cells_new w9 _ 26
              obtain ⟨z0, z1, z2, z3, z4⟩ := hc10.five0
              have Hb710 := hide ((unhide Hb79).trans (hb10.mono (unhide Hb79).size))
              have Hb10 := hide ((unhide Hb7).trans ((unhide Hb710).mono (unhide Hb7).size))
              have Hw2 := hide ((unhide HC).write _ _ _ _ (unhide HR _ (unhide Hb10)) (leaf_at ((unhide HX9).below hb10) (by rw [el9]; have := unhide HLL; omega) 0 2 false) (by simp only [weight, weights, el9]; have := unhide HLL; omega))
              rw [show ([sb] ++ l : Bs) = sb :: l from rfl] at Hw2
              rw [unhide Hno2] at Hw2
              simp only [errOf, bytesOf] at Hw2
              unfold dcells at Hw2
              clear hR9 hb10 hc10 hTb hw7 Hjn
              go_wp2_with fail
              refine (unhide Hw2).mono ?_
              rintro e w11 ⟨x11, rfl, hO11, hb11⟩
              obtain ⟨p11, q11, rfl⟩ := hO11.form
              have hb711 := (unhide Hb710).trans (hb11.mono (unhide Hb710).size)
              obtain ⟨y0, y1, y2, y3, y4⟩ := ((unhide HTb).below hb711).five0
              have Hb11 := hide ((unhide Hb7).trans (hb711.mono (unhide Hb7).size))
              have Hsm := hide (same_any w11 _ _ l l (by have h1 := (unhide HX7).below hb711; exact h1) (unhide HXl _ ((unhide Hb27).trans (hb711.mono (unhide Hb27).size))) (by have := unhide HLL; omega))
              simp only [decide_true] at Hsm
              clear hO11 hb11 hb711 Hw2 z0 z1 z2 z3 z4
              go_wp2_with fail
              refine (unhide Hsm).mono ?_
              rintro e w12 ⟨rfl, hb12⟩
              have Hb12 := hide ((unhide Hb11).trans (hb12.mono (unhide Hb11).size))
              clear hb12 Hsm
              go_wp2
              go_ret
              exact ⟨rfl, unhide Hb12⟩
            · have c1' := c1 h1
              have d0 : decide ((1 : Int) < (L : Int)) = true := by simp; omega
              have d0n : decide (1 < L) = true := by simp; omega
              have l0 : (0 : Int) < (L : Int) := by omega
              have l1 : (1 : Int) < (L : Int) := by omega
              have f1 : decide ((q : Int) < 128) = false := by simp; omega
              have f1n : decide (q < 128) = false := by simp; omega
              clear c1
              go_wp2_with fail
              refine (unhide Hw).mono ?_
              rintro e w4 ⟨x4, rfl, hO4, hb4⟩
              have HX4 := hide hO4.bytes
              obtain ⟨p4, q4, rfl⟩ := hO4.form
              have Hb24 := hide ((unhide Hb23).trans (hb4.mono (unhide Hb23).size))
              have Hb4 := hide ((unhide Hb3).trans (hb4.mono (unhide Hb3).size))
              have Hrd := hide ((unhide HC).read w4 _ _ (unhide HR w4 (unhide Hb4)) (unhide HX4) (by
                have h1 := unhide HLL
                have h2 : (lenB l.length).length = 1 := by unfold lenB; rw [if_pos (by omega)]; rfl
                have h3 := len_tagB_le 0 2 false
                simp only [List.length_append, h2]
                omega))
              rw [unhide Hrd0] at Hrd
              simp only [errOf, valOf] at Hrd
              obtain ⟨NB, hNB⟩ : ∃ NB, (tagB 0 2 false ++ lenB l.length ++ l).length = NB := ⟨_, rfl⟩
              rw [hNB] at Hrd ⊢
              clear hO4 hb4 Hw a0 a1 a2 a3 a4 HX4 hNB
              go_wp2_with fail
              refine (unhide Hrd).mono ?_
              rintro e w6 ⟨cs6, rfl, ⟨n6, hv6⟩, hb6⟩
              have HV6 : Hid (∀ s1 c1 s2 c2, cs6 = dcells 0 2 false (.slice s1 l.length c1) (.slice s2 0 c2) → BytesAt w6 (.slice s1 l.length c1) l) := fun s1 c1 s2 c2 ee => by
                cases n6 with
                | zero => exact hv6.elim
                | succ n6 =>
                  obtain ⟨xb, sk, ck, e2, hx, _⟩ := hv6
                  rw [ee] at e2
                  simp only [dcells, DV.cls, DV.tag, DV.made, DV.kids, List.length_nil, List.cons.injEq, and_true, true_and] at e2
                  obtain ⟨_, rfl, _⟩ := e2
                  exact hx
              obtain ⟨r1, t1, r2, t2, rfl⟩ := hv6.form
              simp only [DV.cls, DV.tag, DV.made, DV.bytes, DV.kids, List.length_nil]
              have HX6 := hide (unhide HV6 r1 t1 r2 t2 rfl)
              have hlL := (unhide HLL).1
              rw [hlL] at HX6 ⊢
              unfold dcells
              have Hb26 := hide ((unhide Hb24).trans (hb6.mono (unhide Hb24).size))
              have Hb6 := hide ((unhide Hb4).trans (hb6.mono (unhide Hb4).size))
              obtain ⟨Tb, hTb⟩ : ∃ Tb, w6.heap.size = Tb := ⟨_, rfl⟩
              have HTb : Hid (CellsAt (w6.alloc (.cells #[.int .i64 0, .int .i64 2, .bool false, .slice r1 L t1, .slice r2 0 t2] 26)) Tb 0 (dcells 0 2 false (.slice r1 L t1) (.slice r2 0 t2))) := by rw [← hTb]; exact cells_new w6 _ 26
              obtain ⟨w7, hw7⟩ : ∃ w7, w6.alloc (.cells #[.int .i64 0, .int .i64 2, .bool false, .slice r1 L t1, .slice r2 0 t2] 26) = w7 := ⟨_, rfl⟩
              have hb7 : Below w6.heap.size w6 w7 := by rw [← hw7]; exact (Below.refl _ _).alloc (Nat.le_refl _) _
              rw [hw7] at HTb
              have HX7 := hide ((unhide HX6).below hb7)
              have Hb27 := hide ((unhide Hb26).trans (hb7.mono (unhide Hb26).size))
              have Hb7 := hide ((unhide Hb6).trans (hb7.mono (unhide Hb6).size))
              clear hb6 hb7 hv6 HV6 Hrd HX6 hlL
              obtain ⟨sb, S, hS, hSn, hSw⟩ : ∃ (sb : UInt8) (S : Nat), sb.toNat = S ∧ S = (if 0 ≤ n then 0 else 255) ∧ IntKind.u8.wrap (n / 9223372036854775808) = (S : Int) := by
                rcases unhide Hsh with ⟨h0, h1⟩ | ⟨h0, h1⟩
                · exact ⟨0, 0, rfl, by rw [if_pos h0], by rw [h1]; rfl⟩
                · exact ⟨255, 255, rfl, by rw [if_neg (by omega)], by rw [h1]; rfl⟩
              have Hno2 : Hid (writeTop formD (.mk 0 2 false (sb :: l) []) = .no 24) := unhide Hno sb (by rw [hS, hSn])
              have hb8 : Below w7.heap.size w7 (w7.alloc (.cells #[.int .u8 (S : Int)] 5)) := (Below.refl _ _).alloc (Nat.le_refl _) _
              have hY8 : BytesAt (w7.alloc (.cells #[.int .u8 (S : Int)] 5)) (.slice (some ⟨w7.heap.size, 0, none⟩) 1 1) [sb] := by
                have := bytes_new w7 [sb]
                simp only [List.map_cons, List.map_nil, bv, hS] at this
                exact this
              have Hjn := hide (join_any _ _ _ [sb] l hY8 (unhide HXl _ ((unhide Hb27).trans (hb8.mono (unhide Hb27).size))) (by have := unhide HLL; simp; omega))
              have Hb78 := hide hb8
              clear hS hSn hb8 hY8
              go_wp2_with fail
              refine (unhide Hjn).mono ?_
              rintro e w9 ⟨x9, rfl, hR9⟩
              have HX9 := hide hR9.bytes
              obtain ⟨p9, q9, rfl⟩ := hR9.own.form
              have el9 : ([sb] ++ l).length = L + 1 := by have := (unhide HLL).1; simp; omega
              have Hb79 := hide ((unhide Hb78).trans (hR9.b.mono (unhide Hb78).size))
              rw [el9] at HX9 ⊢
              have hb10 : Below w9.heap.size w9 (w9.alloc (.cells #[.int .i64 0, .int .i64 2, .bool false, .slice p9 (L + 1) q9, .slice none 0 0] 26)) := (Below.refl _ _).alloc (Nat.le_refl _) _
              have hc10 : CellsAt (w9.alloc (.cells #[.int .i64 0, .int .i64 2, .bool false, .slice p9 (L + 1) q9, .slice none 0 0] 26)) w9.heap.size 0 (dcells 0 2 false (.slice p9 (L + 1) q9) (.slice none 0 0)) := cells_new w9 _ 26
              obtain ⟨z0, z1, z2, z3, z4⟩ := hc10.five0
              have Hb710 := hide ((unhide Hb79).trans (hb10.mono (unhide Hb79).size))
              have Hb10 := hide ((unhide Hb7).trans ((unhide Hb710).mono (unhide Hb7).size))
              have Hw2 := hide ((unhide HC).write _ _ _ _ (unhide HR _ (unhide Hb10)) (leaf_at ((unhide HX9).below hb10) (by rw [el9]; have := unhide HLL; omega) 0 2 false) (by simp only [weight, weights, el9]; have := unhide HLL; omega))
              rw [show ([sb] ++ l : Bs) = sb :: l from rfl] at Hw2
              rw [unhide Hno2] at Hw2
              simp only [errOf, bytesOf] at Hw2
              unfold dcells at Hw2
              clear hR9 hb10 hc10 hTb hw7 Hjn
              go_wp2_with fail
              refine (unhide Hw2).mono ?_
              rintro e w11 ⟨x11, rfl, hO11, hb11⟩
              obtain ⟨p11, q11, rfl⟩ := hO11.form
              have hb711 := (unhide Hb710).trans (hb11.mono (unhide Hb710).size)
              obtain ⟨y0, y1, y2, y3, y4⟩ := ((unhide HTb).below hb711).five0
              have Hb11 := hide ((unhide Hb7).trans (hb711.mono (unhide Hb7).size))
              have Hsm := hide (same_any w11 _ _ l l (by have h1 := (unhide HX7).below hb711; exact h1) (unhide HXl _ ((unhide Hb27).trans (hb711.mono (unhide Hb27).size))) (by have := unhide HLL; omega))
              simp only [decide_true] at Hsm
              clear hO11 hb11 hb711 Hw2 z0 z1 z2 z3 z4
              go_wp2_with fail
              refine (unhide Hsm).mono ?_
              rintro e w12 ⟨rfl, hb12⟩
              have Hb12 := hide ((unhide Hb11).trans (hb12.mono (unhide Hb11).size))
              clear hb12 Hsm
              go_wp2
              go_ret
              exact ⟨rfl, unhide Hb12⟩
            · have c1' := c1 h1
              have d0 : decide ((1 : Int) < (L : Int)) = true := by simp; omega
              have d0n : decide (1 < L) = true := by simp; omega
              have l0 : (0 : Int) < (L : Int) := by omega
              have l1 : (1 : Int) < (L : Int) := by omega
              have f1 : decide ((128 : Int) ≤ (q : Int)) = false := by simp; omega
              have f1n : decide (128 ≤ q) = false := by simp; omega
              clear c1
              go_wp2_with fail
              refine (unhide Hw).mono ?_
              rintro e w4 ⟨x4, rfl, hO4, hb4⟩
              have HX4 := hide hO4.bytes
              obtain ⟨p4, q4, rfl⟩ := hO4.form
              have Hb24 := hide ((unhide Hb23).trans (hb4.mono (unhide Hb23).size))
              have Hb4 := hide ((unhide Hb3).trans (hb4.mono (unhide Hb3).size))
              have Hrd := hide ((unhide HC).read w4 _ _ (unhide HR w4 (unhide Hb4)) (unhide HX4) (by
                have h1 := unhide HLL
                have h2 : (lenB l.length).length = 1 := by unfold lenB; rw [if_pos (by omega)]; rfl
                have h3 := len_tagB_le 0 2 false
                simp only [List.length_append, h2]
                omega))
              rw [unhide Hrd0] at Hrd
              simp only [errOf, valOf] at Hrd
              obtain ⟨NB, hNB⟩ : ∃ NB, (tagB 0 2 false ++ lenB l.length ++ l).length = NB := ⟨_, rfl⟩
              rw [hNB] at Hrd ⊢
              clear hO4 hb4 Hw a0 a1 a2 a3 a4 HX4 hNB
              go_wp2_with fail
              refine (unhide Hrd).mono ?_
              rintro e w6 ⟨cs6, rfl, ⟨n6, hv6⟩, hb6⟩
              have HV6 : Hid (∀ s1 c1 s2 c2, cs6 = dcells 0 2 false (.slice s1 l.length c1) (.slice s2 0 c2) → BytesAt w6 (.slice s1 l.length c1) l) := fun s1 c1 s2 c2 ee => by
                cases n6 with
                | zero => exact hv6.elim
                | succ n6 =>
                  obtain ⟨xb, sk, ck, e2, hx, _⟩ := hv6
                  rw [ee] at e2
                  simp only [dcells, DV.cls, DV.tag, DV.made, DV.kids, List.length_nil, List.cons.injEq, and_true, true_and] at e2
                  obtain ⟨_, rfl, _⟩ := e2
                  exact hx
              obtain ⟨r1, t1, r2, t2, rfl⟩ := hv6.form
              simp only [DV.cls, DV.tag, DV.made, DV.bytes, DV.kids, List.length_nil]
              have HX6 := hide (unhide HV6 r1 t1 r2 t2 rfl)
              have hlL := (unhide HLL).1
              rw [hlL] at HX6 ⊢
              unfold dcells
              have Hb26 := hide ((unhide Hb24).trans (hb6.mono (unhide Hb24).size))
              have Hb6 := hide ((unhide Hb4).trans (hb6.mono (unhide Hb4).size))
              obtain ⟨Tb, hTb⟩ : ∃ Tb, w6.heap.size = Tb := ⟨_, rfl⟩
              have HTb : Hid (CellsAt (w6.alloc (.cells #[.int .i64 0, .int .i64 2, .bool false, .slice r1 L t1, .slice r2 0 t2] 26)) Tb 0 (dcells 0 2 false (.slice r1 L t1) (.slice r2 0 t2))) := by rw [← hTb]; exact cells_new w6 _ 26
              obtain ⟨w7, hw7⟩ : ∃ w7, w6.alloc (.cells #[.int .i64 0, .int .i64 2, .bool false, .slice r1 L t1, .slice r2 0 t2] 26) = w7 := ⟨_, rfl⟩
              have hb7 : Below w6.heap.size w6 w7 := by rw [← hw7]; exact (Below.refl _ _).alloc (Nat.le_refl _) _
              rw [hw7] at HTb
              have HX7 := hide ((unhide HX6).below hb7)
              have Hb27 := hide ((unhide Hb26).trans (hb7.mono (unhide Hb26).size))
              have Hb7 := hide ((unhide Hb6).trans (hb7.mono (unhide Hb6).size))
              clear hb6 hb7 hv6 HV6 Hrd HX6 hlL
              obtain ⟨sb, S, hS, hSn, hSw⟩ : ∃ (sb : UInt8) (S : Nat), sb.toNat = S ∧ S = (if 0 ≤ n then 0 else 255) ∧ IntKind.u8.wrap (n / 9223372036854775808) = (S : Int) := by
                rcases unhide Hsh with ⟨h0, h1⟩ | ⟨h0, h1⟩
                · exact ⟨0, 0, rfl, by rw [if_pos h0], by rw [h1]; rfl⟩
                · exact ⟨255, 255, rfl, by rw [if_neg (by omega)], by rw [h1]; rfl⟩
              have Hno2 : Hid (writeTop formD (.mk 0 2 false (sb :: l) []) = .no 24) := unhide Hno sb (by rw [hS, hSn])
              have hb8 : Below w7.heap.size w7 (w7.alloc (.cells #[.int .u8 (S : Int)] 5)) := (Below.refl _ _).alloc (Nat.le_refl _) _
              have hY8 : BytesAt (w7.alloc (.cells #[.int .u8 (S : Int)] 5)) (.slice (some ⟨w7.heap.size, 0, none⟩) 1 1) [sb] := by
                have := bytes_new w7 [sb]
                simp only [List.map_cons, List.map_nil, bv, hS] at this
                exact this
              have Hjn := hide (join_any _ _ _ [sb] l hY8 (unhide HXl _ ((unhide Hb27).trans (hb8.mono (unhide Hb27).size))) (by have := unhide HLL; simp; omega))
              have Hb78 := hide hb8
              clear hS hSn hb8 hY8
              go_wp2_with fail
              refine (unhide Hjn).mono ?_
              rintro e w9 ⟨x9, rfl, hR9⟩
              have HX9 := hide hR9.bytes
              obtain ⟨p9, q9, rfl⟩ := hR9.own.form
              have el9 : ([sb] ++ l).length = L + 1 := by have := (unhide HLL).1; simp; omega
              have Hb79 := hide ((unhide Hb78).trans (hR9.b.mono (unhide Hb78).size))
              rw [el9] at HX9 ⊢
              have hb10 : Below w9.heap.size w9 (w9.alloc (.cells #[.int .i64 0, .int .i64 2, .bool false, .slice p9 (L + 1) q9, .slice none 0 0] 26)) := (Below.refl _ _).alloc (Nat.le_refl _) _
              have hc10 : CellsAt (w9.alloc (.cells #[.int .i64 0, .int .i64 2, .bool false, .slice p9 (L + 1) q9, .slice none 0 0] 26)) w9.heap.size 0 (dcells 0 2 false (.slice p9 (L + 1) q9) (.slice none 0 0)) := cells_new w9 _ 26
              obtain ⟨z0, z1, z2, z3, z4⟩ := hc10.five0
              have Hb710 := hide ((unhide Hb79).trans (hb10.mono (unhide Hb79).size))
              have Hb10 := hide ((unhide Hb7).trans ((unhide Hb710).mono (unhide Hb7).size))
              have Hw2 := hide ((unhide HC).write _ _ _ _ (unhide HR _ (unhide Hb10)) (leaf_at ((unhide HX9).below hb10) (by rw [el9]; have := unhide HLL; omega) 0 2 false) (by simp only [weight, weights, el9]; have := unhide HLL; omega))
              rw [show ([sb] ++ l : Bs) = sb :: l from rfl] at Hw2
              rw [unhide Hno2] at Hw2
              simp only [errOf, bytesOf] at Hw2
              unfold dcells at Hw2
              clear hR9 hb10 hc10 hTb hw7 Hjn
              go_wp2_with fail
              refine (unhide Hw2).mono ?_
              rintro e w11 ⟨x11, rfl, hO11, hb11⟩
              obtain ⟨p11, q11, rfl⟩ := hO11.form
              have hb711 := (unhide Hb710).trans (hb11.mono (unhide Hb710).size)
              obtain ⟨y0, y1, y2, y3, y4⟩ := ((unhide HTb).below hb711).five0
              have Hb11 := hide ((unhide Hb7).trans (hb711.mono (unhide Hb7).size))
              have Hsm := hide (same_any w11 _ _ l l (by have h1 := (unhide HX7).below hb711; exact h1) (unhide HXl _ ((unhide Hb27).trans (hb711.mono (unhide Hb27).size))) (by have := unhide HLL; omega))
              simp only [decide_true] at Hsm
              clear hO11 hb11 hb711 Hw2 z0 z1 z2 z3 z4
              go_wp2_with fail
              refine (unhide Hsm).mono ?_
              rintro e w12 ⟨rfl, hb12⟩
              have Hb12 := hide ((unhide Hb11).trans (hb12.mono (unhide Hb11).size))
              clear hb12 Hsm
              go_wp2
              go_ret
              exact ⟨rfl, unhide Hb12⟩
            · have c1' := c1 h1
              have d0 : decide ((1 : Int) < (L : Int)) = true := by simp; omega
              have d0n : decide (1 < L) = true := by simp; omega
              have l0 : (0 : Int) < (L : Int) := by omega
              have l1 : (1 : Int) < (L : Int) := by omega
              have f1 : ((p : Int) == 0) = false := by simp; omega
              have f2 : ((p : Int) == 255) = false := by simp; omega
              clear c1
              go_wp2_with fail
              refine (unhide Hw).mono ?_
              rintro e w4 ⟨x4, rfl, hO4, hb4⟩
              have HX4 := hide hO4.bytes
              obtain ⟨p4, q4, rfl⟩ := hO4.form
              have Hb24 := hide ((unhide Hb23).trans (hb4.mono (unhide Hb23).size))
              have Hb4 := hide ((unhide Hb3).trans (hb4.mono (unhide Hb3).size))
              have Hrd := hide ((unhide HC).read w4 _ _ (unhide HR w4 (unhide Hb4)) (unhide HX4) (by
                have h1 := unhide HLL
                have h2 : (lenB l.length).length = 1 := by unfold lenB; rw [if_pos (by omega)]; rfl
                have h3 := len_tagB_le 0 2 false
                simp only [List.length_append, h2]
                omega))
              rw [unhide Hrd0] at Hrd
              simp only [errOf, valOf] at Hrd
              obtain ⟨NB, hNB⟩ : ∃ NB, (tagB 0 2 false ++ lenB l.length ++ l).length = NB := ⟨_, rfl⟩
              rw [hNB] at Hrd ⊢
              clear hO4 hb4 Hw a0 a1 a2 a3 a4 HX4 hNB
              go_wp2_with fail
              refine (unhide Hrd).mono ?_
              rintro e w6 ⟨cs6, rfl, ⟨n6, hv6⟩, hb6⟩
              have HV6 : Hid (∀ s1 c1 s2 c2, cs6 = dcells 0 2 false (.slice s1 l.length c1) (.slice s2 0 c2) → BytesAt w6 (.slice s1 l.length c1) l) := fun s1 c1 s2 c2 ee => by
                cases n6 with
                | zero => exact hv6.elim
                | succ n6 =>
                  obtain ⟨xb, sk, ck, e2, hx, _⟩ := hv6
                  rw [ee] at e2
                  simp only [dcells, DV.cls, DV.tag, DV.made, DV.kids, List.length_nil, List.cons.injEq, and_true, true_and] at e2
                  obtain ⟨_, rfl, _⟩ := e2
                  exact hx
              obtain ⟨r1, t1, r2, t2, rfl⟩ := hv6.form
              simp only [DV.cls, DV.tag, DV.made, DV.bytes, DV.kids, List.length_nil]
              have HX6 := hide (unhide HV6 r1 t1 r2 t2 rfl)
              have hlL := (unhide HLL).1
              rw [hlL] at HX6 ⊢
              unfold dcells
              have Hb26 := hide ((unhide Hb24).trans (hb6.mono (unhide Hb24).size))
              have Hb6 := hide ((unhide Hb4).trans (hb6.mono (unhide Hb4).size))
              obtain ⟨Tb, hTb⟩ : ∃ Tb, w6.heap.size = Tb := ⟨_, rfl⟩
              have HTb : Hid (CellsAt (w6.alloc (.cells #[.int .i64 0, .int .i64 2, .bool false, .slice r1 L t1, .slice r2 0 t2] 26)) Tb 0 (dcells 0 2 false (.slice r1 L t1) (.slice r2 0 t2))) := by rw [← hTb]; exact cells_new w6 _ 26
              obtain ⟨w7, hw7⟩ : ∃ w7, w6.alloc (.cells #[.int .i64 0, .int .i64 2, .bool false, .slice r1 L t1, .slice r2 0 t2] 26) = w7 := ⟨_, rfl⟩
              have hb7 : Below w6.heap.size w6 w7 := by rw [← hw7]; exact (Below.refl _ _).alloc (Nat.le_refl _) _
              rw [hw7] at HTb
              have HX7 := hide ((unhide HX6).below hb7)
              have Hb27 := hide ((unhide Hb26).trans (hb7.mono (unhide Hb26).size))
              have Hb7 := hide ((unhide Hb6).trans (hb7.mono (unhide Hb6).size))
              clear hb6 hb7 hv6 HV6 Hrd HX6 hlL
              obtain ⟨sb, S, hS, hSn, hSw⟩ : ∃ (sb : UInt8) (S : Nat), sb.toNat = S ∧ S = (if 0 ≤ n then 0 else 255) ∧ IntKind.u8.wrap (n / 9223372036854775808) = (S : Int) := by
                rcases unhide Hsh with ⟨h0, h1⟩ | ⟨h0, h1⟩
                · exact ⟨0, 0, rfl, by rw [if_pos h0], by rw [h1]; rfl⟩
                · exact ⟨255, 255, rfl, by rw [if_neg (by omega)], by rw [h1]; rfl⟩
              have Hno2 : Hid (writeTop formD (.mk 0 2 false (sb :: l) []) = .no 24) := unhide Hno sb (by rw [hS, hSn])
              have hb8 : Below w7.heap.size w7 (w7.alloc (.cells #[.int .u8 (S : Int)] 5)) := (Below.refl _ _).alloc (Nat.le_refl _) _
              have hY8 : BytesAt (w7.alloc (.cells #[.int .u8 (S : Int)] 5)) (.slice (some ⟨w7.heap.size, 0, none⟩) 1 1) [sb] := by
                have := bytes_new w7 [sb]
                simp only [List.map_cons, List.map_nil, bv, hS] at this
                exact this
              have Hjn := hide (join_any _ _ _ [sb] l hY8 (unhide HXl _ ((unhide Hb27).trans (hb8.mono (unhide Hb27).size))) (by have := unhide HLL; simp; omega))
              have Hb78 := hide hb8
              clear hS hSn hb8 hY8
              go_wp2_with fail
              refine (unhide Hjn).mono ?_
              rintro e w9 ⟨x9, rfl, hR9⟩
              have HX9 := hide hR9.bytes
              obtain ⟨p9, q9, rfl⟩ := hR9.own.form
              have el9 : ([sb] ++ l).length = L + 1 := by have := (unhide HLL).1; simp; omega
              have Hb79 := hide ((unhide Hb78).trans (hR9.b.mono (unhide Hb78).size))
              rw [el9] at HX9 ⊢
              have hb10 : Below w9.heap.size w9 (w9.alloc (.cells #[.int .i64 0, .int .i64 2, .bool false, .slice p9 (L + 1) q9, .slice none 0 0] 26)) := (Below.refl _ _).alloc (Nat.le_refl _) _
              have hc10 : CellsAt (w9.alloc (.cells #[.int .i64 0, .int .i64 2, .bool false, .slice p9 (L + 1) q9, .slice none 0 0] 26)) w9.heap.size 0 (dcells 0 2 false (.slice p9 (L + 1) q9) (.slice none 0 0)) := cells_new w9 _ 26
              obtain ⟨z0, z1, z2, z3, z4⟩ := hc10.five0
              have Hb710 := hide ((unhide Hb79).trans (hb10.mono (unhide Hb79).size))
              have Hb10 := hide ((unhide Hb7).trans ((unhide Hb710).mono (unhide Hb7).size))
              have Hw2 := hide ((unhide HC).write _ _ _ _ (unhide HR _ (unhide Hb10)) (leaf_at ((unhide HX9).below hb10) (by rw [el9]; have := unhide HLL; omega) 0 2 false) (by simp only [weight, weights, el9]; have := unhide HLL; omega))
              rw [show ([sb] ++ l : Bs) = sb :: l from rfl] at Hw2
              rw [unhide Hno2] at Hw2
              simp only [errOf, bytesOf] at Hw2
              unfold dcells at Hw2
              clear hR9 hb10 hc10 hTb hw7 Hjn
              go_wp2_with fail
              refine (unhide Hw2).mono ?_
              rintro e w11 ⟨x11, rfl, hO11, hb11⟩
              obtain ⟨p11, q11, rfl⟩ := hO11.form
              have hb711 := (unhide Hb710).trans (hb11.mono (unhide Hb710).size)
              obtain ⟨y0, y1, y2, y3, y4⟩ := ((unhide HTb).below hb711).five0
              have Hb11 := hide ((unhide Hb7).trans (hb711.mono (unhide Hb7).size))
              have Hsm := hide (same_any w11 _ _ l l (by have h1 := (unhide HX7).below hb711; exact h1) (unhide HXl _ ((unhide Hb27).trans (hb711.mono (unhide Hb27).size))) (by have := unhide HLL; omega))
              simp only [decide_true] at Hsm
              clear hO11 hb11 hb711 Hw2 z0 z1 z2 z3 z4
              go_wp2_with fail
              refine (unhide Hsm).mono ?_
              rintro e w12 ⟨rfl, hb12⟩
              have Hb12 := hide ((unhide Hb11).trans (hb12.mono (unhide Hb11).size))
              clear hb12 Hsm
              go_wp2
              go_ret
              exact ⟨rfl, unhide Hb12⟩
          | true =>
            obtain rfl : 10 = t := by simpa using ht
            rcases hex with h1 | ⟨h1, rfl, h3⟩ | ⟨h1, rfl, h3⟩ | ⟨h1, h2, h3⟩
            · have d0 : decide ((1 : Int) < (L : Int)) = false := by simp; omega
              have d0n : decide (1 < L) = false := by simp; omega
              clear h1
              clear c1
              go_wp2_with fail
              refine (unhide Hw).mono ?_
              rintro e w4 ⟨x4, rfl, hO4, hb4⟩
              have HX4 := hide hO4.bytes
              obtain ⟨p4, q4, rfl⟩ := hO4.form
              have Hb24 := hide ((unhide Hb23).trans (hb4.mono (unhide Hb23).size))
              have Hb4 := hide ((unhide Hb3).trans (hb4.mono (unhide Hb3).size))
              have Hrd := hide ((unhide HC).read w4 _ _ (unhide HR w4 (unhide Hb4)) (unhide HX4) (by
                have h1 := unhide HLL
                have h2 : (lenB l.length).length = 1 := by unfold lenB; rw [if_pos (by omega)]; rfl
                have h3 := len_tagB_le 0 10 false
                simp only [List.length_append, h2]
                omega))
              rw [unhide Hrd0] at Hrd
              simp only [errOf, valOf] at Hrd
              obtain ⟨NB, hNB⟩ : ∃ NB, (tagB 0 10 false ++ lenB l.length ++ l).length = NB := ⟨_, rfl⟩
              rw [hNB] at Hrd ⊢
              clear hO4 hb4 Hw a0 a1 a2 a3 a4 HX4 hNB
              go_wp2_with fail
              refine (unhide Hrd).mono ?_
              rintro e w6 ⟨cs6, rfl, ⟨n6, hv6⟩, hb6⟩
              have HV6 : Hid (∀ s1 c1 s2 c2, cs6 = dcells 0 10 false (.slice s1 l.length c1) (.slice s2 0 c2) → BytesAt w6 (.slice s1 l.length c1) l) := fun s1 c1 s2 c2 ee => by
                cases n6 with
                | zero => exact hv6.elim
                | succ n6 =>
                  obtain ⟨xb, sk, ck, e2, hx, _⟩ := hv6
                  rw [ee] at e2
                  simp only [dcells, DV.cls, DV.tag, DV.made, DV.kids, List.length_nil, List.cons.injEq, and_true, true_and] at e2
                  obtain ⟨_, rfl, _⟩ := e2
                  exact hx
              obtain ⟨r1, t1, r2, t2, rfl⟩ := hv6.form
              simp only [DV.cls, DV.tag, DV.made, DV.bytes, DV.kids, List.length_nil]
              have HX6 := hide (unhide HV6 r1 t1 r2 t2 rfl)
              have hlL := (unhide HLL).1
              rw [hlL] at HX6 ⊢
              unfold dcells
              have Hb26 := hide ((unhide Hb24).trans (hb6.mono (unhide Hb24).size))
              have Hb6 := hide ((unhide Hb4).trans (hb6.mono (unhide Hb4).size))
              obtain ⟨Tb, hTb⟩ : ∃ Tb, w6.heap.size = Tb := ⟨_, rfl⟩
              have HTb : Hid (CellsAt (w6.alloc (.cells #[.int .i64 0, .int .i64 10, .bool false, .slice r1 L t1, .slice r2 0 t2] 26)) Tb 0 (dcells 0 10 false (.slice r1 L t1) (.slice r2 0 t2))) := by rw [← hTb]; exact cells_new w6 _ 26
              obtain ⟨w7, hw7⟩ : ∃ w7, w6.alloc (.cells #[.int .i64 0, .int .i64 10, .bool false, .slice r1 L t1, .slice r2 0 t2] 26) = w7 := ⟨_, rfl⟩
              have hb7 : Below w6.heap.size w6 w7 := by rw [← hw7]; exact (Below.refl _ _).alloc (Nat.le_refl _) _
              rw [hw7] at HTb
              have HX7 := hide ((unhide HX6).below hb7)
              have Hb27 := hide ((unhide Hb26).trans (hb7.mono (unhide Hb26).size))
              have Hb7 := hide ((unhide Hb6).trans (hb7.mono (unhide Hb6).size))
              clear hb6 hb7 hv6 HV6 Hrd HX6 hlL
              obtain ⟨sb, S, hS, hSn, hSw⟩ : ∃ (sb : UInt8) (S : Nat), sb.toNat = S ∧ S = (if 0 ≤ n then 0 else 255) ∧ IntKind.u8.wrap (n / 9223372036854775808) = (S : Int) := by
                rcases unhide Hsh with ⟨h0, h1⟩ | ⟨h0, h1⟩
                · exact ⟨0, 0, rfl, by rw [if_pos h0], by rw [h1]; rfl⟩
                · exact ⟨255, 255, rfl, by rw [if_neg (by omega)], by rw [h1]; rfl⟩
              have Hno2 : Hid (writeTop formD (.mk 0 10 false (sb :: l) []) = .no 24) := unhide Hno sb (by rw [hS, hSn])
              have hb8 : Below w7.heap.size w7 (w7.alloc (.cells #[.int .u8 (S : Int)] 5)) := (Below.refl _ _).alloc (Nat.le_refl _) _
              have hY8 : BytesAt (w7.alloc (.cells #[.int .u8 (S : Int)] 5)) (.slice (some ⟨w7.heap.size, 0, none⟩) 1 1) [sb] := by
                have := bytes_new w7 [sb]
                simp only [List.map_cons, List.map_nil, bv, hS] at this
                exact this
              have Hjn := hide (join_any _ _ _ [sb] l hY8 (unhide HXl _ ((unhide Hb27).trans (hb8.mono (unhide Hb27).size))) (by have := unhide HLL; simp; omega))
              have Hb78 := hide hb8
              clear hS hSn hb8 hY8
              go_wp2_with fail
              refine (unhide Hjn).mono ?_
              rintro e w9 ⟨x9, rfl, hR9⟩
              have HX9 := hide hR9.bytes
              obtain ⟨p9, q9, rfl⟩ := hR9.own.form
              have el9 : ([sb] ++ l).length = L + 1 := by have := (unhide HLL).1; simp; omega
              have Hb79 := hide ((unhide Hb78).trans (hR9.b.mono (unhide Hb78).size))
              rw [el9] at HX9 ⊢
              have hb10 : Below w9.heap.size w9 (w9.alloc (.cells #[.int .i64 0, .int .i64 10, .bool false, .slice p9 (L + 1) q9, .slice none 0 0] 26)) := (Below.refl _ _).alloc (Nat.le_refl _) _
              have hc10 : CellsAt (w9.alloc (.cells #[.int .i64 0, .int .i64 10, .bool false, .slice p9 (L + 1) q9, .slice none 0 0] 26)) w9.heap.size 0 (dcells 0 10 false (.slice p9 (L + 1) q9) (.slice none 0 0)) := cells_new w9 _ 26
              obtain ⟨z0, z1, z2, z3, z4⟩ := hc10.five0
              have Hb710 := hide ((unhide Hb79).trans (hb10.mono (unhide Hb79).size))
              have Hb10 := hide ((unhide Hb7).trans ((unhide Hb710).mono (unhide Hb7).size))
              have Hw2 := hide ((unhide HC).write _ _ _ _ (unhide HR _ (unhide Hb10)) (leaf_at ((unhide HX9).below hb10) (by rw [el9]; have := unhide HLL; omega) 0 10 false) (by simp only [weight, weights, el9]; have := unhide HLL; omega))
              rw [show ([sb] ++ l : Bs) = sb :: l from rfl] at Hw2
              rw [unhide Hno2] at Hw2
              simp only [errOf, bytesOf] at Hw2
              unfold dcells at Hw2
              clear hR9 hb10 hc10 hTb hw7 Hjn
              go_wp2_with fail
              refine (unhide Hw2).mono ?_
              rintro e w11 ⟨x11, rfl, hO11, hb11⟩
              obtain ⟨p11, q11, rfl⟩ := hO11.form
              have hb711 := (unhide Hb710).trans (hb11.mono (unhide Hb710).size)
              obtain ⟨y0, y1, y2, y3, y4⟩ := ((unhide HTb).below hb711).five0
              have Hb11 := hide ((unhide Hb7).trans (hb711.mono (unhide Hb7).size))
              have Hsm := hide (same_any w11 _ _ l l (by have h1 := (unhide HX7).below hb711; exact h1) (unhide HXl _ ((unhide Hb27).trans (hb711.mono (unhide Hb27).size))) (by have := unhide HLL; omega))
              simp only [decide_true] at Hsm
              clear hO11 hb11 hb711 Hw2 z0 z1 z2 z3 z4
              go_wp2_with fail
              refine (unhide Hsm).mono ?_
              rintro e w12 ⟨rfl, hb12⟩
              have Hb12 := hide ((unhide Hb11).trans (hb12.mono (unhide Hb11).size))
              clear hb12 Hsm
              go_wp2
              go_ret
              exact ⟨rfl, unhide Hb12⟩
            · have c1' := c1 h1
              have d0 : decide ((1 : Int) < (L : Int)) = true := by simp; omega
              have d0n : decide (1 < L) = true := by simp; omega
              have l0 : (0 : Int) < (L : Int) := by omega
              have l1 : (1 : Int) < (L : Int) := by omega
              have f1 : decide ((q : Int) < 128) = false := by simp; omega
              have f1n : decide (q < 128) = false := by simp; omega
              clear c1
              go_wp2_with fail
              refine (unhide Hw).mono ?_
              rintro e w4 ⟨x4, rfl, hO4, hb4⟩
              have HX4 := hide hO4.bytes
              obtain ⟨p4, q4, rfl⟩ := hO4.form
              have Hb24 := hide ((unhide Hb23).trans (hb4.mono (unhide Hb23).size))
              have Hb4 := hide ((unhide Hb3).trans (hb4.mono (unhide Hb3).size))
              have Hrd := hide ((unhide HC).read w4 _ _ (unhide HR w4 (unhide Hb4)) (unhide HX4) (by
                have h1 := unhide HLL
                have h2 : (lenB l.length).length = 1 := by unfold lenB; rw [if_pos (by omega)]; rfl
                have h3 := len_tagB_le 0 10 false
                simp only [List.length_append, h2]
                omega))
              rw [unhide Hrd0] at Hrd
              simp only [errOf, valOf] at Hrd
              obtain ⟨NB, hNB⟩ : ∃ NB, (tagB 0 10 false ++ lenB l.length ++ l).length = NB := ⟨_, rfl⟩
              rw [hNB] at Hrd ⊢
              clear hO4 hb4 Hw a0 a1 a2 a3 a4 HX4 hNB
              go_wp2_with fail
              refine (unhide Hrd).mono ?_
              rintro e w6 ⟨cs6, rfl, ⟨n6, hv6⟩, hb6⟩
              have HV6 : Hid (∀ s1 c1 s2 c2, cs6 = dcells 0 10 false (.slice s1 l.length c1) (.slice s2 0 c2) → BytesAt w6 (.slice s1 l.length c1) l) := fun s1 c1 s2 c2 ee => by
                cases n6 with
                | zero => exact hv6.elim
                | succ n6 =>
                  obtain ⟨xb, sk, ck, e2, hx, _⟩ := hv6
                  rw [ee] at e2
                  simp only [dcells, DV.cls, DV.tag, DV.made, DV.kids, List.length_nil, List.cons.injEq, and_true, true_and] at e2
                  obtain ⟨_, rfl, _⟩ := e2
                  exact hx
              obtain ⟨r1, t1, r2, t2, rfl⟩ := hv6.form
              simp only [DV.cls, DV.tag, DV.made, DV.bytes, DV.kids, List.length_nil]
              have HX6 := hide (unhide HV6 r1 t1 r2 t2 rfl)
              have hlL := (unhide HLL).1
              rw [hlL] at HX6 ⊢
              unfold dcells
              have Hb26 := hide ((unhide Hb24).trans (hb6.mono (unhide Hb24).size))
              have Hb6 := hide ((unhide Hb4).trans (hb6.mono (unhide Hb4).size))
              obtain ⟨Tb, hTb⟩ : ∃ Tb, w6.heap.size = Tb := ⟨_, rfl⟩
              have HTb : Hid (CellsAt (w6.alloc (.cells #[.int .i64 0, .int .i64 10, .bool false, .slice r1 L t1, .slice r2 0 t2] 26)) Tb 0 (dcells 0 10 false (.slice r1 L t1) (.slice r2 0 t2))) := by rw [← hTb]; exact cells_new w6 _ 26
              obtain ⟨w7, hw7⟩ : ∃ w7, w6.alloc (.cells #[.int .i64 0, .int .i64 10, .bool false, .slice r1 L t1, .slice r2 0 t2] 26) = w7 := ⟨_, rfl⟩
              have hb7 : Below w6.heap.size w6 w7 := by rw [← hw7]; exact (Below.refl _ _).alloc (Nat.le_refl _) _
              rw [hw7] at HTb
              have HX7 := hide ((unhide HX6).below hb7)
              have Hb27 := hide ((unhide Hb26).trans (hb7.mono (unhide Hb26).size))
              have Hb7 := hide ((unhide Hb6).trans (hb7.mono (unhide Hb6).size))
              clear hb6 hb7 hv6 HV6 Hrd HX6 hlL
              obtain ⟨sb, S, hS, hSn, hSw⟩ : ∃ (sb : UInt8) (S : Nat), sb.toNat = S ∧ S = (if 0 ≤ n then 0 else 255) ∧ IntKind.u8.wrap (n / 9223372036854775808) = (S : Int) := by
                rcases unhide Hsh with ⟨h0, h1⟩ | ⟨h0, h1⟩
                · exact ⟨0, 0, rfl, by rw [if_pos h0], by rw [h1]; rfl⟩
                · exact ⟨255, 255, rfl, by rw [if_neg (by omega)], by rw [h1]; rfl⟩
              have Hno2 : Hid (writeTop formD (.mk 0 10 false (sb :: l) []) = .no 24) := unhide Hno sb (by rw [hS, hSn])
              have hb8 : Below w7.heap.size w7 (w7.alloc (.cells #[.int .u8 (S : Int)] 5)) := (Below.refl _ _).alloc (Nat.le_refl _) _
              have hY8 : BytesAt (w7.alloc (.cells #[.int .u8 (S : Int)] 5)) (.slice (some ⟨w7.heap.size, 0, none⟩) 1 1) [sb] := by
                have := bytes_new w7 [sb]
                simp only [List.map_cons, List.map_nil, bv, hS] at this
                exact this
              have Hjn := hide (join_any _ _ _ [sb] l hY8 (unhide HXl _ ((unhide Hb27).trans (hb8.mono (unhide Hb27).size))) (by have := unhide HLL; simp; omega))
              have Hb78 := hide hb8
              clear hS hSn hb8 hY8
              go_wp2_with fail
              refine (unhide Hjn).mono ?_
              rintro e w9 ⟨x9, rfl, hR9⟩
              have HX9 := hide hR9.bytes
              obtain ⟨p9, q9, rfl⟩ := hR9.own.form
              have el9 : ([sb] ++ l).length = L + 1 := by have := (unhide HLL).1; simp; omega
              have Hb79 := hide ((unhide Hb78).trans (hR9.b.mono (unhide Hb78).size))
              rw [el9] at HX9 ⊢
              have hb10 : Below w9.heap.size w9 (w9.alloc (.cells #[.int .i64 0, .int .i64 10, .bool false, .slice p9 (L + 1) q9, .slice none 0 0] 26)) := (Below.refl _ _).alloc (Nat.le_refl _) _
              have hc10 : CellsAt (w9.alloc (.cells #[.int .i64 0, .int .i64 10, .bool false, .slice p9 (L + 1) q9, .slice none 0 0] 26)) w9.heap.size 0 (dcells 0 10 false (.slice p9 (L + 1) q9) (.slice none 0 0)) := cells_new w9 _ 26
              obtain ⟨z0, z1, z2, z3, z4⟩ := hc10.five0
              have Hb710 := hide ((unhide Hb79).trans (hb10.mono (unhide Hb79).size))
              have Hb10 := hide ((unhide Hb7).trans ((unhide Hb710).mono (unhide Hb7).size))
              have Hw2 := hide ((unhide HC).write _ _ _ _ (unhide HR _ (unhide Hb10)) (leaf_at ((unhide HX9).below hb10) (by rw [el9]; have := unhide HLL; omega) 0 10 false) (by simp only [weight, weights, el9]; have := unhide HLL; omega))
              rw [show ([sb] ++ l : Bs) = sb :: l from rfl] at Hw2
              rw [unhide Hno2] at Hw2
              simp only [errOf, bytesOf] at Hw2
              unfold dcells at Hw2
              clear hR9 hb10 hc10 hTb hw7 Hjn
              go_wp2_with fail
              refine (unhide Hw2).mono ?_
              rintro e w11 ⟨x11, rfl, hO11, hb11⟩
              obtain ⟨p11, q11, rfl⟩ := hO11.form
              have hb711 := (unhide Hb710).trans (hb11.mono (unhide Hb710).size)
              obtain ⟨y0, y1, y2, y3, y4⟩ := ((unhide HTb).below hb711).five0
              have Hb11 := hide ((unhide Hb7).trans (hb711.mono (unhide Hb7).size))
              have Hsm := hide (same_any w11 _ _ l l (by have h1 := (unhide HX7).below hb711; exact h1) (unhide HXl _ ((unhide Hb27).trans (hb711.mono (unhide Hb27).size))) (by have := unhide HLL; omega))
              simp only [decide_true] at Hsm
              clear hO11 hb11 hb711 Hw2 z0 z1 z2 z3 z4
              go_wp2_with fail
              refine (unhide Hsm).mono ?_
              rintro e w12 ⟨rfl, hb12⟩
              have Hb12 := hide ((unhide Hb11).trans (hb12.mono (unhide Hb11).size))
              clear hb12 Hsm
              go_wp2
              go_ret
              exact ⟨rfl, unhide Hb12⟩
            · have c1' := c1 h1
              have d0 : decide ((1 : Int) < (L : Int)) = true := by simp; omega
              have d0n : decide (1 < L) = true := by simp; omega
              have l0 : (0 : Int) < (L : Int) := by omega
              have l1 : (1 : Int) < (L : Int) := by omega
              have f1 : decide ((128 : Int) ≤ (q : Int)) = false := by simp; omega
              have f1n : decide (128 ≤ q) = false := by simp; omega
              clear c1
              go_wp2_with fail
              refine (unhide Hw).mono ?_
              rintro e w4 ⟨x4, rfl, hO4, hb4⟩
              have HX4 := hide hO4.bytes
              obtain ⟨p4, q4, rfl⟩ := hO4.form
              have Hb24 := hide ((unhide Hb23).trans (hb4.mono (unhide Hb23).size))
              have Hb4 := hide ((unhide Hb3).trans (hb4.mono (unhide Hb3).size))
              have Hrd := hide ((unhide HC).read w4 _ _ (unhide HR w4 (unhide Hb4)) (unhide HX4) (by
                have h1 := unhide HLL
                have h2 : (lenB l.length).length = 1 := by unfold lenB; rw [if_pos (by omega)]; rfl
                have h3 := len_tagB_le 0 10 false
                simp only [List.length_append, h2]
                omega))
              rw [unhide Hrd0] at Hrd
              simp only [errOf, valOf] at Hrd
              obtain ⟨NB, hNB⟩ : ∃ NB, (tagB 0 10 false ++ lenB l.length ++ l).length = NB := ⟨_, rfl⟩
              rw [hNB] at Hrd ⊢
              clear hO4 hb4 Hw a0 a1 a2 a3 a4 HX4 hNB
              go_wp2_with fail
              refine (unhide Hrd).mono ?_
              rintro e w6 ⟨cs6, rfl, ⟨n6, hv6⟩, hb6⟩
              have HV6 : Hid (∀ s1 c1 s2 c2, cs6 = dcells 0 10 false (.slice s1 l.length c1) (.slice s2 0 c2) → BytesAt w6 (.slice s1 l.length c1) l) := fun s1 c1 s2 c2 ee => by
                cases n6 with
                | zero => exact hv6.elim
                | succ n6 =>
                  obtain ⟨xb, sk, ck, e2, hx, _⟩ := hv6
                  rw [ee] at e2
                  simp only [dcells, DV.cls, DV.tag, DV.made, DV.kids, List.length_nil, List.cons.injEq, and_true, true_and] at e2
                  obtain ⟨_, rfl, _⟩ := e2
                  exact hx
              obtain ⟨r1, t1, r2, t2, rfl⟩ := hv6.form
              simp only [DV.cls, DV.tag, DV.made, DV.bytes, DV.kids, List.length_nil]
              have HX6 := hide (unhide HV6 r1 t1 r2 t2 rfl)
              have hlL := (unhide HLL).1
              rw [hlL] at HX6 ⊢
              unfold dcells
              have Hb26 := hide ((unhide Hb24).trans (hb6.mono (unhide Hb24).size))
              have Hb6 := hide ((unhide Hb4).trans (hb6.mono (unhide Hb4).size))
              obtain ⟨Tb, hTb⟩ : ∃ Tb, w6.heap.size = Tb := ⟨_, rfl⟩
              have HTb : Hid (CellsAt (w6.alloc (.cells #[.int .i64 0, .int .i64 10, .bool false, .slice r1 L t1, .slice r2 0 t2] 26)) Tb 0 (dcells 0 10 false (.slice r1 L t1) (.slice r2 0 t2))) := by rw [← hTb]; exact cells_new w6 _ 26
              obtain ⟨w7, hw7⟩ : ∃ w7, w6.alloc (.cells #[.int .i64 0, .int .i64 10, .bool false, .slice r1 L t1, .slice r2 0 t2] 26) = w7 := ⟨_, rfl⟩
              have hb7 : Below w6.heap.size w6 w7 := by rw [← hw7]; exact (Below.refl _ _).alloc (Nat.le_refl _) _
              rw [hw7] at HTb
              have HX7 := hide ((unhide HX6).below hb7)
              have Hb27 := hide ((unhide Hb26).trans (hb7.mono (unhide Hb26).size))
              have Hb7 := hide ((unhide Hb6).trans (hb7.mono (unhide Hb6).size))
              clear hb6 hb7 hv6 HV6 Hrd HX6 hlL
              obtain ⟨sb, S, hS, hSn, hSw⟩ : ∃ (sb : UInt8) (S : Nat), sb.toNat = S ∧ S = (if 0 ≤ n then 0 else 255) ∧ IntKind.u8.wrap (n / 9223372036854775808) = (S : Int) := by
                rcases unhide Hsh with ⟨h0, h1⟩ | ⟨h0, h1⟩
                · exact ⟨0, 0, rfl, by rw [if_pos h0], by rw [h1]; rfl⟩
                · exact ⟨255, 255, rfl, by rw [if_neg (by omega)], by rw [h1]; rfl⟩
              have Hno2 : Hid (writeTop formD (.mk 0 10 false (sb :: l) []) = .no 24) := unhide Hno sb (by rw [hS, hSn])
              have hb8 : Below w7.heap.size w7 (w7.alloc (.cells #[.int .u8 (S : Int)] 5)) := (Below.refl _ _).alloc (Nat.le_refl _) _
              have hY8 : BytesAt (w7.alloc (.cells #[.int .u8 (S : Int)] 5)) (.slice (some ⟨w7.heap.size, 0, none⟩) 1 1) [sb] := by
                have := bytes_new w7 [sb]
                simp only [List.map_cons, List.map_nil, bv, hS] at this
                exact this
              have Hjn := hide (join_any _ _ _ [sb] l hY8 (unhide HXl _ ((unhide Hb27).trans (hb8.mono (unhide Hb27).size))) (by have := unhide HLL; simp; omega))
              have Hb78 := hide hb8
              clear hS hSn hb8 hY8
              go_wp2_with fail
              refine (unhide Hjn).mono ?_
              rintro e w9 ⟨x9, rfl, hR9⟩
              have HX9 := hide hR9.bytes
              obtain ⟨p9, q9, rfl⟩ := hR9.own.form
              have el9 : ([sb] ++ l).length = L + 1 := by have := (unhide HLL).1; simp; omega
              have Hb79 := hide ((unhide Hb78).trans (hR9.b.mono (unhide Hb78).size))
              rw [el9] at HX9 ⊢
              have hb10 : Below w9.heap.size w9 (w9.alloc (.cells #[.int .i64 0, .int .i64 10, .bool false, .slice p9 (L + 1) q9, .slice none 0 0] 26)) := (Below.refl _ _).alloc (Nat.le_refl _) _
              have hc10 : CellsAt (w9.alloc (.cells #[.int .i64 0, .int .i64 10, .bool false, .slice p9 (L + 1) q9, .slice none 0 0] 26)) w9.heap.size 0 (dcells 0 10 false (.slice p9 (L + 1) q9) (.slice none 0 0)) := cells_new w9 _ 26
              obtain ⟨z0, z1, z2, z3, z4⟩ := hc10.five0
              have Hb710 := hide ((unhide Hb79).trans (hb10.mono (unhide Hb79).size))
              have Hb10 := hide ((unhide Hb7).trans ((unhide Hb710).mono (unhide Hb7).size))
              have Hw2 := hide ((unhide HC).write _ _ _ _ (unhide HR _ (unhide Hb10)) (leaf_at ((unhide HX9).below hb10) (by rw [el9]; have := unhide HLL; omega) 0 10 false) (by simp only [weight, weights, el9]; have := unhide HLL; omega))
              rw [show ([sb] ++ l : Bs) = sb :: l from rfl] at Hw2
              rw [unhide Hno2] at Hw2
              simp only [errOf, bytesOf] at Hw2
              unfold dcells at Hw2
              clear hR9 hb10 hc10 hTb hw7 Hjn
              go_wp2_with fail
              refine (unhide Hw2).mono ?_
              rintro e w11 ⟨x11, rfl, hO11, hb11⟩
              obtain ⟨p11, q11, rfl⟩ := hO11.form
              have hb711 := (unhide Hb710).trans (hb11.mono (unhide Hb710).size)
              obtain ⟨y0, y1, y2, y3, y4⟩ := ((unhide HTb).below hb711).five0
              have Hb11 := hide ((unhide Hb7).trans (hb711.mono (unhide Hb7).size))
              have Hsm := hide (same_any w11 _ _ l l (by have h1 := (unhide HX7).below hb711; exact h1) (unhide HXl _ ((unhide Hb27).trans (hb711.mono (unhide Hb27).size))) (by have := unhide HLL; omega))
              simp only [decide_true] at Hsm
              clear hO11 hb11 hb711 Hw2 z0 z1 z2 z3 z4
              go_wp2_with fail
              refine (unhide Hsm).mono ?_
              rintro e w12 ⟨rfl, hb12⟩
              have Hb12 := hide ((unhide Hb11).trans (hb12.mono (unhide Hb11).size))
              clear hb12 Hsm
              go_wp2
              go_ret
              exact ⟨rfl, unhide Hb12⟩
            · have c1' := c1 h1
              have d0 : decide ((1 : Int) < (L : Int)) = true := by simp; omega
              have d0n : decide (1 < L) = true := by simp; omega
              have l0 : (0 : Int) < (L : Int) := by omega
              have l1 : (1 : Int) < (L : Int) := by omega
              have f1 : ((p : Int) == 0) = false := by simp; omega
              have f2 : ((p : Int) == 255) = false := by simp; omega
              clear c1
              go_wp2_with fail
              refine (unhide Hw).mono ?_
              rintro e w4 ⟨x4, rfl, hO4, hb4⟩
              have HX4 := hide hO4.bytes
              obtain ⟨p4, q4, rfl⟩ := hO4.form
              have Hb24 := hide ((unhide Hb23).trans (hb4.mono (unhide Hb23).size))
              have Hb4 := hide ((unhide Hb3).trans (hb4.mono (unhide Hb3).size))
              have Hrd := hide ((unhide HC).read w4 _ _ (unhide HR w4 (unhide Hb4)) (unhide HX4) (by
                have h1 := unhide HLL
                have h2 : (lenB l.length).length = 1 := by unfold lenB; rw [if_pos (by omega)]; rfl
                have h3 := len_tagB_le 0 10 false
                simp only [List.length_append, h2]
                omega))
              rw [unhide Hrd0] at Hrd
              simp only [errOf, valOf] at Hrd
              obtain ⟨NB, hNB⟩ : ∃ NB, (tagB 0 10 false ++ lenB l.length ++ l).length = NB := ⟨_, rfl⟩
              rw [hNB] at Hrd ⊢
              clear hO4 hb4 Hw a0 a1 a2 a3 a4 HX4 hNB
              go_wp2_with fail
              refine (unhide Hrd).mono ?_
              rintro e w6 ⟨cs6, rfl, ⟨n6, hv6⟩, hb6⟩
              have HV6 : Hid (∀ s1 c1 s2 c2, cs6 = dcells 0 10 false (.slice s1 l.length c1) (.slice s2 0 c2) → BytesAt w6 (.slice s1 l.length c1) l) := fun s1 c1 s2 c2 ee => by
                cases n6 with
                | zero => exact hv6.elim
                | succ n6 =>
                  obtain ⟨xb, sk, ck, e2, hx, _⟩ := hv6
                  rw [ee] at e2
                  simp only [dcells, DV.cls, DV.tag, DV.made, DV.kids, List.length_nil, List.cons.injEq, and_true, true_and] at e2
                  obtain ⟨_, rfl, _⟩ := e2
                  exact hx
              obtain ⟨r1, t1, r2, t2, rfl⟩ := hv6.form
              simp only [DV.cls, DV.tag, DV.made, DV.bytes, DV.kids, List.length_nil]
              have HX6 := hide (unhide HV6 r1 t1 r2 t2 rfl)
              have hlL := (unhide HLL).1
              rw [hlL] at HX6 ⊢
              unfold dcells
              have Hb26 := hide ((unhide Hb24).trans (hb6.mono (unhide Hb24).size))
              have Hb6 := hide ((unhide Hb4).trans (hb6.mono (unhide Hb4).size))
              obtain ⟨Tb, hTb⟩ : ∃ Tb, w6.heap.size = Tb := ⟨_, rfl⟩
              have HTb : Hid (CellsAt (w6.alloc (.cells #[.int .i64 0, .int .i64 10, .bool false, .slice r1 L t1, .slice r2 0 t2] 26)) Tb 0 (dcells 0 10 false (.slice r1 L t1) (.slice r2 0 t2))) := by rw [← hTb]; exact cells_new w6 _ 26
              obtain ⟨w7, hw7⟩ : ∃ w7, w6.alloc (.cells #[.int .i64 0, .int .i64 10, .bool false, .slice r1 L t1, .slice r2 0 t2] 26) = w7 := ⟨_, rfl⟩
              have hb7 : Below w6.heap.size w6 w7 := by rw [← hw7]; exact (Below.refl _ _).alloc (Nat.le_refl _) _
              rw [hw7] at HTb
              have HX7 := hide ((unhide HX6).below hb7)
              have Hb27 := hide ((unhide Hb26).trans (hb7.mono (unhide Hb26).size))
              have Hb7 := hide ((unhide Hb6).trans (hb7.mono (unhide Hb6).size))
              clear hb6 hb7 hv6 HV6 Hrd HX6 hlL
              obtain ⟨sb, S, hS, hSn, hSw⟩ : ∃ (sb : UInt8) (S : Nat), sb.toNat = S ∧ S = (if 0 ≤ n then 0 else 255) ∧ IntKind.u8.wrap (n / 9223372036854775808) = (S : Int) := by
                rcases unhide Hsh with ⟨h0, h1⟩ | ⟨h0, h1⟩
                · exact ⟨0, 0, rfl, by rw [if_pos h0], by rw [h1]; rfl⟩
                · exact ⟨255, 255, rfl, by rw [if_neg (by omega)], by rw [h1]; rfl⟩
              have Hno2 : Hid (writeTop formD (.mk 0 10 false (sb :: l) []) = .no 24) := unhide Hno sb (by rw [hS, hSn])
              have hb8 : Below w7.heap.size w7 (w7.alloc (.cells #[.int .u8 (S : Int)] 5)) := (Below.refl _ _).alloc (Nat.le_refl _) _
              have hY8 : BytesAt (w7.alloc (.cells #[.int .u8 (S : Int)] 5)) (.slice (some ⟨w7.heap.size, 0, none⟩) 1 1) [sb] := by
                have := bytes_new w7 [sb]
                simp only [List.map_cons, List.map_nil, bv, hS] at this
                exact this
              have Hjn := hide (join_any _ _ _ [sb] l hY8 (unhide HXl _ ((unhide Hb27).trans (hb8.mono (unhide Hb27).size))) (by have := unhide HLL; simp; omega))
              have Hb78 := hide hb8
              clear hS hSn hb8 hY8
              go_wp2_with fail
              refine (unhide Hjn).mono ?_
              rintro e w9 ⟨x9, rfl, hR9⟩
              have HX9 := hide hR9.bytes
              obtain ⟨p9, q9, rfl⟩ := hR9.own.form
              have el9 : ([sb] ++ l).length = L + 1 := by have := (unhide HLL).1; simp; omega
              have Hb79 := hide ((unhide Hb78).trans (hR9.b.mono (unhide Hb78).size))
              rw [el9] at HX9 ⊢
              have hb10 : Below w9.heap.size w9 (w9.alloc (.cells #[.int .i64 0, .int .i64 10, .bool false, .slice p9 (L + 1) q9, .slice none 0 0] 26)) := (Below.refl _ _).alloc (Nat.le_refl _) _
              have hc10 : CellsAt (w9.alloc (.cells #[.int .i64 0, .int .i64 10, .bool false, .slice p9 (L + 1) q9, .slice none 0 0] 26)) w9.heap.size 0 (dcells 0 10 false (.slice p9 (L + 1) q9) (.slice none 0 0)) := cells_new w9 _ 26
              obtain ⟨z0, z1, z2, z3, z4⟩ := hc10.five0
              have Hb710 := hide ((unhide Hb79).trans (hb10.mono (unhide Hb79).size))
              have Hb10 := hide ((unhide Hb7).trans ((unhide Hb710).mono (unhide Hb7).size))
              have Hw2 := hide ((unhide HC).write _ _ _ _ (unhide HR _ (unhide Hb10)) (leaf_at ((unhide HX9).below hb10) (by rw [el9]; have := unhide HLL; omega) 0 10 false) (by simp only [weight, weights, el9]; have := unhide HLL; omega))
              rw [show ([sb] ++ l : Bs) = sb :: l from rfl] at Hw2
              rw [unhide Hno2] at Hw2
              simp only [errOf, bytesOf] at Hw2
              unfold dcells at Hw2
              clear hR9 hb10 hc10 hTb hw7 Hjn
              go_wp2_with fail
              refine (unhide Hw2).mono ?_
              rintro e w11 ⟨x11, rfl, hO11, hb11⟩
              obtain ⟨p11, q11, rfl⟩ := hO11.form
              have hb711 := (unhide Hb710).trans (hb11.mono (unhide Hb710).size)
              obtain ⟨y0, y1, y2, y3, y4⟩ := ((unhide HTb).below hb711).five0
              have Hb11 := hide ((unhide Hb7).trans (hb711.mono (unhide Hb7).size))
              have Hsm := hide (same_any w11 _ _ l l (by have h1 := (unhide HX7).below hb711; exact h1) (unhide HXl _ ((unhide Hb27).trans (hb711.mono (unhide Hb27).size))) (by have := unhide HLL; omega))
              simp only [decide_true] at Hsm
              clear hO11 hb11 hb711 Hw2 z0 z1 z2 z3 z4
              go_wp2_with fail
              refine (unhide Hsm).mono ?_
              rintro e w12 ⟨rfl, hb12⟩
              have Hb12 := hide ((unhide Hb11).trans (hb12.mono (unhide Hb11).size))
              clear hb12 Hsm
              go_wp2
              go_ret
              exact ⟨rfl, unhide Hb12⟩
end Go.Proofs.YtngkidlgcdofhabDoor
