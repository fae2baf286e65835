/-
  The walk of the statement DerLetters.
-/
import Derived.Test.YtngkidlgcdofhabDoorDtime9
import Derived.Test.YtngkidlgcdofhabDoorAnc9
import Derived.Test.YtngkidlgcdofhabDoorLeaf9
import Derived.Test.YtngkidlgcdofhabDoorJoin9
import Derived.Laws.IdiomStrings
namespace Go.Proofs.YtngkidlgcdofhabDoor
open Go.RowKit
/-- Printable tells what the document says. -/
def Prints (R : World → Prop) : Prop := ∀ (w : World) (c : UInt8), R w → Calls Tryd.prog 15 #[bv c] w fun e w' => e = .returned (.bool (printP c)) ∧ Below w.heap.size w w'
theorem sidx (S : ByteArray) (k : Nat) (hk : k < S.size) (w : World) : (Instr.index 9 (.string S) (.int .i64 (k : Int))).run Tryd.prog w = .ok (.int .u8 ((S.data.toList.getD k 0).toNat : Int)) w := by
  have h1 : k < S.data.size := hk
  have hu : Tryd.prog.underlying 9 = some .string := by kernel_rfl
  rw [run_index_string w 9 S .i64 (k : Int) hu, dif_pos (by omega)]
  have e : S.data.toList.getD k 0 = S[(k : Int).toNat]'(by simpa using hk) := by
    rw [List.getD_eq_getElem?_getD]
    simp only [Int.toNat_natCast, Array.getElem?_toList, Array.getElem?_eq_getElem h1, Option.getD_some]
    rfl
  rw [e]
theorem form_print (b : Bs) : formD 0 19 false b = if b.all printP = true then 0 else 24 := by
  have : rightP 19 b = b.all printP := rfl
  unfold formD
  rw [if_neg (by omega), if_neg (by decide), this]
  cases b.all printP <;> rfl
theorem form_ascii (b : Bs) : formD 0 22 false b = if b.all (fun c => decide (c.toNat < 128)) = true then 0 else 24 := by
  have : rightP 22 b = b.all (fun c => decide (c.toNat < 128)) := rfl
  unfold formD
  rw [if_neg (by omega), if_neg (by decide), this]
  cases b.all (fun c => decide (c.toNat < 128)) <;> rfl
theorem err_read {t : Nat} (ht : t < 31) (b : Bs) (hb : b.length < 128) (k : Bool) (h : formD 0 t false b = if k = true then 0 else 24) : decide (errOf (readP formD (UInt8.ofNat t :: UInt8.ofNat b.length :: b)) = 0) = k := by
  rw [read_plain ht b hb, h]
  cases k <;> rfl
theorem all_take_succ (p : UInt8 → Bool) {l : Bs} {k : Nat} (h : k < l.length) : (l.take (k + 1)).all p = ((l.take k).all p && p (l.getD k 0)) := by
  rw [List.take_add_one, List.getElem?_eq_getElem h, List.all_append, List.getD_eq_getElem?_getD, List.getElem?_eq_getElem h]
  simp
/-- The bytes of a text, in new memory. -/
theorem bytes_of_text (w : World) (S : ByteArray) : BytesAt (w.drew.alloc (.cells (bytesRow S (grownCap w S.size 0 5)) 5 ((bytesRow S (grownCap w S.size 0 5)).size, (bytesRow S (grownCap w S.size 0 5)).size + 1))) (.slice (some ⟨w.heap.size, 0, none⟩) S.size (grownCap w S.size 0 5)) S.data.toList := by
  have hlen : S.data.toList.length = S.size := by rw [Array.length_toList]; rfl
  have hge := grownCap_ge w S.size 0 5
  refine ⟨_, _, by rw [List.length_map, hlen], by rw [List.length_map, hlen]; exact hge, fun e => (by cases e), fun _ => ⟨w.heap.size, 0, rfl, fun j v hv => ?_⟩⟩
  have hj : j < S.data.size := by have := (List.getElem?_eq_some_iff.1 hv).1; simpa using this
  rw [Nat.zero_add]
  have h1 := World.cell?_alloc_mark w.drew (bytesRow S (grownCap w S.size 0 5)) 5 ((bytesRow S (grownCap w S.size 0 5)).size, (bytesRow S (grownCap w S.size 0 5)).size + 1) j
  have h2 := bytesRow_at S (grownCap w S.size 0 5) j hj
  have h3 : (S.data.toList.map bv)[j]? = some (.int .u8 (S.data[j].toNat : Int)) := by
    rw [List.getElem?_map, Array.getElem?_toList, Array.getElem?_eq_getElem hj]
    rfl
  rw [h3] at hv
  rw [← hv, ← h2]
  exact h1
set_option maxRecDepth 100000 in
set_option maxHeartbeats 8000000 in
theorem letters_true {R : World → Prop} (C : Der R) (CP : Prints R) (w0 : World) (hR : R w0) (c : UInt8) (s : ByteArray) (hs0 : (s.size : Int) ≤ 9223372036854775807) :
    Calls Tryd.prog 7 #[bv c, .string s] w0 fun e w' => e = .returned (.bool true) ∧ Below w0.heap.size w0 w' := by
  have HC := hide C
  have HCP := hide CP
  have HR : Hid (∀ w, Below w0.heap.size w0 w → R w) := fun w hb => C.below _ _ hR hb
  have Hanc := hide (anchor_any C w0 hR)
  have Hpr : Hid (∀ w, Calls Tryd.prog 14 #[.int .u8 (c.toNat : Int)] w fun e w' => e = .returned (.bool (printP c)) ∧ w' = w) := fun w => print_any c w
  have Hdp : Hid (∀ w, Below w0.heap.size w0 w → Calls Tryd.prog 15 #[.int .u8 (c.toNat : Int)] w fun e w' => e = .returned (.bool (printP c)) ∧ Below w.heap.size w w') := fun w hb => CP w c (unhide HR w hb)
  clear C CP hR
  unfold bv
  have hT0 : ((⟨#[c]⟩ : ByteArray)).size = 1 := rfl
  obtain ⟨T, hT⟩ : ∃ T : ByteArray, (⟨#[c]⟩ : ByteArray) = T := ⟨_, rfl⟩
  rw [hT] at hT0
  obtain ⟨p, hp⟩ : ∃ p, c.toNat = p := ⟨_, rfl⟩
  rw [hp] at Hpr Hdp ⊢
  go_enter Tryd.func7, Tryd.ntmps7
  go_wp2_with fail
  refine (unhide Hanc).mono ?_
  rintro e w1 ⟨rfl, hb1⟩
  have Hb1 := hide hb1
  clear hb1 Hanc
  obtain ⟨n, hn⟩ : ∃ n, s.size = n := ⟨_, rfl⟩
  rw [hn] at hs0
  by_cases h100 : 100 < n
  · have d1 : decide ((100 : Int) < (n : Int)) = true := by simp; omega
    have d1n : decide (100 < n) = true := by simp; omega
    go_wp2
    go_ret
    exact ⟨rfl, unhide Hb1⟩
  have d1 : decide ((100 : Int) < (n : Int)) = false := by simp; omega
  have d1n : decide (100 < n) = false := by simp; omega
  obtain ⟨U, hU⟩ : ∃ U, s ++ T = U := ⟨_, rfl⟩
  obtain ⟨S, hS⟩ : ∃ S, U ++ s = S := ⟨_, rfl⟩
  have sU : U.size = n + 1 := by rw [← hU, ByteArray.size_append, hn, hT0]
  obtain ⟨N, hN⟩ : ∃ N, S.size = N := ⟨_, rfl⟩
  have sS : N = 2 * n + 1 := by rw [← hN, ← hS, ByteArray.size_append, sU, hn]; omega
  have k1 : s.size + T.size ≤ 9223372036854775807 := by rw [hn, hT0]; omega
  have k2 : U.size + s.size ≤ 9223372036854775807 := by rw [hn, sU]; omega
  have Hlen : Hid (S.data.toList.length = N) := by show _ = _; rw [Array.length_toList]; exact hN
  have hcv : (convert 23 9 (.slice (some ⟨w1.heap.size, 0, none⟩) 1 1)).run Tryd.prog (w1.alloc (.cells #[.int .u8 (p : Int)] 5)) = .ok (.string T) (w1.alloc (.cells #[.int .u8 (p : Int)] 5)) := by
    rw [← hT, ← hp]
    exact run_convert_bytes_back (P := Tryd.prog) _ 23 9 5 ⟨w1.heap.size, 0, none⟩ 1 [c] Tryd.underlying23 (by kernel_rfl) (by kernel_rfl) (fun j hj => by
      obtain rfl : j = 0 := by simp at hj; omega
      rw [Addr.add_mid, cell_of_row _ _ _ _ 5 (0, 0) (heap_alloc_new w1 _)]
      rfl)
  have HNb : Hid (N ≤ 201 ∧ N = 2 * n + 1) := ⟨by omega, sS⟩
  have hix : ∀ (k : Nat), k < N → ∀ w, (Instr.index 9 (.string S) (.int .i64 (k : Int))).run Tryd.prog w = .ok (.int .u8 ((S.data.toList.getD k 0).toNat : Int)) w := fun k hk w => sidx S k (by omega) w
  have Hix := hide hix
  clear hix h100 sS sU hT0 hs0
  go_wp2
  obtain ⟨w2, hw2⟩ : ∃ w2, w1.alloc (.cells #[.int .u8 (p : Int)] 5) = w2 := ⟨_, rfl⟩
  rw [hw2]
  have Hb2 : Hid (Below w0.heap.size w0 w2) := by rw [← hw2]; exact (unhide Hb1).alloc (unhide Hb1).size _
  have Hsn : Hid (∀ k, k < N → (S.data.toList.take (k + 1)).all printP = ((S.data.toList.take k).all printP && printP (S.data.toList.getD k 0)) ∧ (S.data.toList.take (k + 1)).all (fun c => decide (c.toNat < 128)) = ((S.data.toList.take k).all (fun c => decide (c.toNat < 128)) && decide ((S.data.toList.getD k 0).toNat < 128))) := fun k hk => ⟨all_take_succ _ (by have := unhide Hlen; omega), all_take_succ _ (by have := unhide Hlen; omega)⟩
  have Hq : Hid (∀ (k : Nat) (w : World), Calls Tryd.prog 14 #[.int .u8 ((S.data.toList.getD k 0).toNat : Int)] w fun e w' => e = .returned (.bool (printP (S.data.toList.getD k 0))) ∧ w' = w) := fun k w => print_any _ w
  have HU := hide hU
  clear hcv hw2 hU hS hT hn k1 k2 d1 d1n
  go_loopw [6, 7, 27] (fun pp aa ii wr => ∃ (k : Nat) (pb ab : Bool), k ≤ N ∧ ii = .int .i64 (k : Int) ∧ pp = .bool pb ∧ aa = .bool ab ∧ wr = w2 ∧ Hid (pb = (S.data.toList.take k).all printP ∧ ab = (S.data.toList.take k).all (fun c => decide (c.toNat < 128)))) (fun _ _ ii _ => N - (intOf ii).toNat)
  case atStart => exact ⟨0, true, true, by omega, rfl, rfl, rfl, rfl, ⟨rfl, rfl⟩⟩
  case round =>
    obtain ⟨k, pb, ab, hk, rfl, rfl, rfl, rfl, HP⟩ := hrel
    by_cases hlt : k < N
    · have e1 : decide ((k : Int) < (N : Int)) = true := by simp; omega
      have e1n : decide (k < N) = true := by simp; omega
      have hi := unhide Hix k hlt
      have Hsn2 := hide (unhide Hsn k hlt)
      rw [← (unhide HP).1, ← (unhide HP).2] at Hsn2
      have Hq2 := hide (unhide Hq k)
      have kb : (k : Int) ≤ 201 := by have := unhide HNb; omega
      obtain ⟨pk, hpk⟩ : ∃ pk, printP (S.data.toList.getD k 0) = pk := ⟨_, rfl⟩
      obtain ⟨q, hq⟩ : ∃ q, (S.data.toList.getD k 0).toNat = q := ⟨_, rfl⟩
      simp only [hpk, hq] at hi Hsn2 Hq2
      clear Hsn Hq Hix HP hpk hq
      obtain ⟨aq, haq⟩ : ∃ aq, decide (q < 128) = aq := ⟨_, rfl⟩
      have haqi : decide ((q : Int) < 128) = aq := by rw [← haq]; congr 1; apply propext; omega
      rw [haq] at Hsn2
      cases pb with
      | true =>
        go_wp2_with fail
        refine (unhide Hq2 _).mono ?_
        rintro e w3 ⟨rfl, rfl⟩
        cases ab with
        | true =>
          go_wp2
          go_roundw
          case rel =>
            first
              | exact ⟨k + 1, pk, aq, by omega, by go_num, by first | rfl | (cases pk <;> rfl), by first | rfl | (cases aq <;> rfl), by first | trivial | rfl, ⟨by rw [(unhide Hsn2).1]; cases pk <;> rfl, by rw [(unhide Hsn2).2]; cases aq <;> rfl⟩⟩
              | ((repeat apply Exists.intro); exact ⟨⟨k + 1, pk, aq, by omega, by go_num, by first | rfl | (cases pk <;> rfl), by first | rfl | (cases aq <;> rfl), by first | trivial | rfl, ⟨by rw [(unhide Hsn2).1]; cases pk <;> rfl, by rw [(unhide Hsn2).2]; cases aq <;> rfl⟩⟩, rfl⟩)
          case measure => simp [intOf]; omega
        | false =>
          go_wp2
          go_roundw
          case rel =>
            first
              | exact ⟨k + 1, pk, false, by omega, by go_num, by first | rfl | (cases pk <;> rfl), rfl, by first | trivial | rfl, ⟨by rw [(unhide Hsn2).1]; cases pk <;> rfl, by rw [(unhide Hsn2).2]; rfl⟩⟩
              | ((repeat apply Exists.intro); exact ⟨⟨k + 1, pk, false, by omega, by go_num, by first | rfl | (cases pk <;> rfl), rfl, by first | trivial | rfl, ⟨by rw [(unhide Hsn2).1]; cases pk <;> rfl, by rw [(unhide Hsn2).2]; rfl⟩⟩, rfl⟩)
          case measure => simp [intOf]; omega
      | false =>
        cases ab with
        | true =>
          go_wp2
          go_roundw
          case rel =>
            first
              | exact ⟨k + 1, false, aq, by omega, by go_num, rfl, by first | rfl | (cases aq <;> rfl), by first | trivial | rfl, ⟨by rw [(unhide Hsn2).1]; rfl, by rw [(unhide Hsn2).2]; cases aq <;> rfl⟩⟩
              | ((repeat apply Exists.intro); exact ⟨⟨k + 1, false, aq, by omega, by go_num, rfl, by first | rfl | (cases aq <;> rfl), by first | trivial | rfl, ⟨by rw [(unhide Hsn2).1]; rfl, by rw [(unhide Hsn2).2]; cases aq <;> rfl⟩⟩, rfl⟩)
          case measure => simp [intOf]; omega
        | false =>
          go_wp2
          go_roundw
          case rel =>
            first
              | exact ⟨k + 1, false, false, by omega, by go_num, rfl, rfl, by first | trivial | rfl, ⟨by rw [(unhide Hsn2).1]; rfl, by rw [(unhide Hsn2).2]; rfl⟩⟩
              | ((repeat apply Exists.intro); exact ⟨⟨k + 1, false, false, by omega, by go_num, rfl, rfl, by first | trivial | rfl, ⟨by rw [(unhide Hsn2).1]; rfl, by rw [(unhide Hsn2).2]; rfl⟩⟩, rfl⟩)
          case measure => simp [intOf]; omega
    · obtain rfl : k = N := by omega
      have e1 : decide ((k : Int) < (k : Int)) = false := by simp
      have HPa : Hid (pb = S.data.toList.all printP ∧ ab = S.data.toList.all (fun c => decide (c.toNat < 128))) := by
        have h := unhide HP
        rw [List.take_of_length_le (by have := unhide Hlen; omega)] at h
        exact h
      clear HP Hsn Hq Hix
      have hu9 : Tryd.prog.underlying 9 = some .string := by kernel_rfl
      have Hcvt : Hid (∀ w : World, ∃ (cp : Nat) (wb : World), (convert 9 23 (.string S)).run Tryd.prog w = .ok (.slice (some ⟨w.heap.size, 0, none⟩) k cp) wb ∧ BytesAt wb (.slice (some ⟨w.heap.size, 0, none⟩) k cp) S.data.toList ∧ Below w.heap.size w wb) := fun w => by
        have h1 := run_bytes_of_string (P := Tryd.prog) w 9 23 5 S hu9 Tryd.underlying23 (by kernel_rfl)
        have h2 := bytes_of_text w S
        rw [hN] at h1 h2
        exact ⟨_, _, h1, h2, (Below.refl w.heap.size w).drew.alloc (Nat.le_refl _) _⟩
      clear hu9
      by_cases h127 : 127 < k
      · have m1 : (127 : Int) < (k : Int) := by omega
        have m2 : decide ((127 : Int) < (k : Int)) = true := by simp; omega
        have m2n : decide (127 < k) = true := by simp; omega
        have HY1 : Hid (∀ w : World, BytesAt (w.alloc (.cells #[.int .u8 19, .int .u8 127] 5)) (.slice (some ⟨w.heap.size, 0, none⟩) 2 2) [19, 127]) := fun w => by
          exact bytes_new w [19, 127]
        have HY2 : Hid (∀ w : World, BytesAt (w.alloc (.cells #[.int .u8 22, .int .u8 127] 5)) (.slice (some ⟨w.heap.size, 0, none⟩) 2 2) [22, 127]) := fun w => by
          exact bytes_new w [22, 127]
        obtain ⟨wa0, hwa0⟩ : ∃ wa, wr.alloc (.cells #[.int .u8 19, .int .u8 127] 5) = wa := ⟨_, rfl⟩
        obtain ⟨cp0, wb0, hcv0, hx0, hbb0⟩ := unhide Hcvt wa0
        have hba0 : Below wr.heap.size wr wa0 := by rw [← hwa0]; exact (Below.refl _ _).alloc (Nat.le_refl _) _
        have hy0 := unhide HY1 wr
        rw [hwa0] at hy0
        have hab0 := hba0.trans (hbb0.mono hba0.size)
        have Hjn0 := hide (join_any _ _ _ [19, 127] S.data.toList (hy0.below hbb0) hx0 (by have := unhide Hlen; have := unhide HNb; simp; omega))
        have Hbj0 := hide ((unhide Hb2).trans (hab0.mono (unhide Hb2).size))
        clear hba0 hbb0 hab0 hx0 hy0
        go_wp2_with fail
        refine (unhide Hjn0).mono ?_
        rintro e wj0 ⟨xj0, rfl, hRj0⟩
        have Hbk0 := hide ((unhide Hbj0).trans (hRj0.b.mono (unhide Hbj0).size))
        have Hrd0 := hide ((unhide HC).read wj0 _ _ (unhide HR _ (unhide Hbk0)) hRj0.bytes (by rw [List.length_append]; have := unhide Hlen; have := unhide HNb; simp; omega))
        obtain ⟨er0, her0⟩ : ∃ er : Nat, errOf (readP formD ([19, 127] ++ S.data.toList)) = er := ⟨_, rfl⟩
        have Her0 := hide her0
        rw [her0] at Hrd0
        clear hRj0 Hjn0 her0 hcv0 hwa0
        go_wp2_with fail
        refine (unhide Hrd0).mono ?_
        rintro e w6 ⟨cs6, rfl, ⟨n6, hv6⟩, hb6⟩
        obtain ⟨r1, t1, r2, t2, rfl⟩ := hv6.form
        unfold dcells
        obtain ⟨vd, hvd⟩ : ∃ vd, valOf (readP formD ([19, 127] ++ S.data.toList)) = vd := ⟨_, rfl⟩
        simp only [hvd]
        obtain ⟨vl, hvl⟩ : ∃ vl, vd.bytes.length = vl := ⟨_, rfl⟩
        obtain ⟨vk, hvk⟩ : ∃ vk, vd.kids.length = vk := ⟨_, rfl⟩
        simp only [hvl, hvk]
        obtain ⟨w7, hw7⟩ : ∃ w7, w6.alloc (.cells #[.int .i64 vd.cls, .int .i64 vd.tag, .bool vd.made, .slice r1 vl t1, .slice r2 vk t2] 26) = w7 := ⟨_, rfl⟩
        have hb7 : Below w6.heap.size w6 w7 := by rw [← hw7]; exact (Below.refl _ _).alloc (Nat.le_refl _) _
        have Hb6 := hide ((unhide Hbk0).trans (hb6.mono (unhide Hbk0).size))
        have Hb7 := hide ((unhide Hb6).trans (hb7.mono (unhide Hb6).size))
        clear hb6 hb7 hv6 hvd hvl hvk Hrd0
        obtain ⟨wa10, hwa10⟩ : ∃ wa, w7.alloc (.cells #[.int .u8 22, .int .u8 127] 5) = wa := ⟨_, rfl⟩
        obtain ⟨cp10, wb10, hcv10, hx10, hbb10⟩ := unhide Hcvt wa10
        have hba10 : Below w7.heap.size w7 wa10 := by rw [← hwa10]; exact (Below.refl _ _).alloc (Nat.le_refl _) _
        have hy10 := unhide HY2 w7
        rw [hwa10] at hy10
        have hab10 := hba10.trans (hbb10.mono hba10.size)
        have Hjn10 := hide (join_any _ _ _ [22, 127] S.data.toList (hy10.below hbb10) hx10 (by have := unhide Hlen; have := unhide HNb; simp; omega))
        have Hbj10 := hide ((unhide Hb7).trans (hab10.mono (unhide Hb7).size))
        clear hba10 hbb10 hab10 hx10 hy10
        go_wp2_with fail
        refine (unhide Hjn10).mono ?_
        rintro e wj10 ⟨xj10, rfl, hRj10⟩
        have Hbk10 := hide ((unhide Hbj10).trans (hRj10.b.mono (unhide Hbj10).size))
        have Hrd10 := hide ((unhide HC).read wj10 _ _ (unhide HR _ (unhide Hbk10)) hRj10.bytes (by rw [List.length_append]; have := unhide Hlen; have := unhide HNb; simp; omega))
        obtain ⟨er10, her10⟩ : ∃ er : Nat, errOf (readP formD ([22, 127] ++ S.data.toList)) = er := ⟨_, rfl⟩
        have Her10 := hide her10
        rw [her10] at Hrd10
        clear hRj10 Hjn10 her10 hcv10 hwa10
        go_wp2_with fail
        refine (unhide Hrd10).mono ?_
        rintro e w6 ⟨cs6, rfl, ⟨n6, hv6⟩, hb6⟩
        obtain ⟨r1, t1, r2, t2, rfl⟩ := hv6.form
        unfold dcells
        obtain ⟨vd, hvd⟩ : ∃ vd, valOf (readP formD ([22, 127] ++ S.data.toList)) = vd := ⟨_, rfl⟩
        simp only [hvd]
        obtain ⟨vl, hvl⟩ : ∃ vl, vd.bytes.length = vl := ⟨_, rfl⟩
        obtain ⟨vk, hvk⟩ : ∃ vk, vd.kids.length = vk := ⟨_, rfl⟩
        simp only [hvl, hvk]
        have Hb8 := hide ((unhide Hbk10).trans (hb6.mono (unhide Hbk10).size))
        have Hb9 : Hid (Below w0.heap.size w0 (w6.alloc (.cells #[.int .i64 vd.cls, .int .i64 vd.tag, .bool vd.made, .slice r1 vl t1, .slice r2 vk t2] 26))) := (unhide Hb8).alloc (unhide Hb8).size _
        clear hb6 hv6 hvd hvl hvk Hrd10
        go_wp2_with fail
        refine (unhide Hdp _ (unhide Hb9)).mono ?_
        rintro e w10 ⟨rfl, hb10⟩
        have Hb10 := hide ((unhide Hb9).trans (hb10.mono (unhide Hb9).size))
        clear hb10
        go_wp2_with fail
        refine (unhide Hpr _).mono ?_
        rintro e w11 ⟨rfl, rfl⟩
        obtain ⟨pc, hpc⟩ : ∃ pc, printP c = pc := ⟨_, rfl⟩
        rw [hpc]
        have pcc : (pc == pc) = true := by simp
        go_wp2
        go_ret
        exact ⟨by first | rfl | simp, unhide Hb10⟩
      · have m1 : ¬ (127 : Int) < (k : Int) := by omega
        have m1b : (k : Int) ≤ 127 := by omega
        have m2 : decide ((127 : Int) < (k : Int)) = false := by simp; omega
        have m2n : decide (127 < k) = false := by simp; omega
        have uk : (((UInt8.ofNat k).toNat : Nat) : Int) = (k : Int) := by rw [UInt8.toNat_ofNat']; omega
        have uw : IntKind.u8.wrap (k : Int) = (k : Int) := by rw [IntKind.wrap_u8']; omega
        have HY1 : Hid (∀ w : World, BytesAt (w.alloc (.cells #[.int .u8 19, .int .u8 (k : Int)] 5)) (.slice (some ⟨w.heap.size, 0, none⟩) 2 2) [19, UInt8.ofNat k]) := fun w => by
          have := bytes_new w [19, UInt8.ofNat k]
          simp only [List.map_cons, List.map_nil, bv, uk] at this
          exact this
        have HY2 : Hid (∀ w : World, BytesAt (w.alloc (.cells #[.int .u8 22, .int .u8 (k : Int)] 5)) (.slice (some ⟨w.heap.size, 0, none⟩) 2 2) [22, UInt8.ofNat k]) := fun w => by
          have := bytes_new w [22, UInt8.ofNat k]
          simp only [List.map_cons, List.map_nil, bv, uk] at this
          exact this
        obtain ⟨wa0, hwa0⟩ : ∃ wa, wr.alloc (.cells #[.int .u8 19, .int .u8 (k : Int)] 5) = wa := ⟨_, rfl⟩
        obtain ⟨cp0, wb0, hcv0, hx0, hbb0⟩ := unhide Hcvt wa0
        have hba0 : Below wr.heap.size wr wa0 := by rw [← hwa0]; exact (Below.refl _ _).alloc (Nat.le_refl _) _
        have hy0 := unhide HY1 wr
        rw [hwa0] at hy0
        have hab0 := hba0.trans (hbb0.mono hba0.size)
        have Hjn0 := hide (join_any _ _ _ [19, UInt8.ofNat k] S.data.toList (hy0.below hbb0) hx0 (by have := unhide Hlen; have := unhide HNb; simp; omega))
        have Hbj0 := hide ((unhide Hb2).trans (hab0.mono (unhide Hb2).size))
        clear hba0 hbb0 hab0 hx0 hy0
        go_wp2_with fail
        refine (unhide Hjn0).mono ?_
        rintro e wj0 ⟨xj0, rfl, hRj0⟩
        have Hbk0 := hide ((unhide Hbj0).trans (hRj0.b.mono (unhide Hbj0).size))
        have Hrd0 := hide ((unhide HC).read wj0 _ _ (unhide HR _ (unhide Hbk0)) hRj0.bytes (by rw [List.length_append]; have := unhide Hlen; have := unhide HNb; simp; omega))
        obtain ⟨er0, her0⟩ : ∃ er : Nat, errOf (readP formD ([19, UInt8.ofNat k] ++ S.data.toList)) = er := ⟨_, rfl⟩
        have Her0 := hide her0
        rw [her0] at Hrd0
        clear hRj0 Hjn0 her0 hcv0 hwa0
        go_wp2_with fail
        refine (unhide Hrd0).mono ?_
        rintro e w6 ⟨cs6, rfl, ⟨n6, hv6⟩, hb6⟩
        obtain ⟨r1, t1, r2, t2, rfl⟩ := hv6.form
        unfold dcells
        obtain ⟨vd, hvd⟩ : ∃ vd, valOf (readP formD ([19, UInt8.ofNat k] ++ S.data.toList)) = vd := ⟨_, rfl⟩
        simp only [hvd]
        obtain ⟨vl, hvl⟩ : ∃ vl, vd.bytes.length = vl := ⟨_, rfl⟩
        obtain ⟨vk, hvk⟩ : ∃ vk, vd.kids.length = vk := ⟨_, rfl⟩
        simp only [hvl, hvk]
        obtain ⟨w7, hw7⟩ : ∃ w7, w6.alloc (.cells #[.int .i64 vd.cls, .int .i64 vd.tag, .bool vd.made, .slice r1 vl t1, .slice r2 vk t2] 26) = w7 := ⟨_, rfl⟩
        have hb7 : Below w6.heap.size w6 w7 := by rw [← hw7]; exact (Below.refl _ _).alloc (Nat.le_refl _) _
        have Hb6 := hide ((unhide Hbk0).trans (hb6.mono (unhide Hbk0).size))
        have Hb7 := hide ((unhide Hb6).trans (hb7.mono (unhide Hb6).size))
        clear hb6 hb7 hv6 hvd hvl hvk Hrd0
        obtain ⟨wa10, hwa10⟩ : ∃ wa, w7.alloc (.cells #[.int .u8 22, .int .u8 (k : Int)] 5) = wa := ⟨_, rfl⟩
        obtain ⟨cp10, wb10, hcv10, hx10, hbb10⟩ := unhide Hcvt wa10
        have hba10 : Below w7.heap.size w7 wa10 := by rw [← hwa10]; exact (Below.refl _ _).alloc (Nat.le_refl _) _
        have hy10 := unhide HY2 w7
        rw [hwa10] at hy10
        have hab10 := hba10.trans (hbb10.mono hba10.size)
        have Hjn10 := hide (join_any _ _ _ [22, UInt8.ofNat k] S.data.toList (hy10.below hbb10) hx10 (by have := unhide Hlen; have := unhide HNb; simp; omega))
        have Hbj10 := hide ((unhide Hb7).trans (hab10.mono (unhide Hb7).size))
        clear hba10 hbb10 hab10 hx10 hy10
        go_wp2_with fail
        refine (unhide Hjn10).mono ?_
        rintro e wj10 ⟨xj10, rfl, hRj10⟩
        have Hbk10 := hide ((unhide Hbj10).trans (hRj10.b.mono (unhide Hbj10).size))
        have Hrd10 := hide ((unhide HC).read wj10 _ _ (unhide HR _ (unhide Hbk10)) hRj10.bytes (by rw [List.length_append]; have := unhide Hlen; have := unhide HNb; simp; omega))
        obtain ⟨er10, her10⟩ : ∃ er : Nat, errOf (readP formD ([22, UInt8.ofNat k] ++ S.data.toList)) = er := ⟨_, rfl⟩
        have Her10 := hide her10
        rw [her10] at Hrd10
        clear hRj10 Hjn10 her10 hcv10 hwa10
        go_wp2_with fail
        refine (unhide Hrd10).mono ?_
        rintro e w6 ⟨cs6, rfl, ⟨n6, hv6⟩, hb6⟩
        obtain ⟨r1, t1, r2, t2, rfl⟩ := hv6.form
        unfold dcells
        obtain ⟨vd, hvd⟩ : ∃ vd, valOf (readP formD ([22, UInt8.ofNat k] ++ S.data.toList)) = vd := ⟨_, rfl⟩
        simp only [hvd]
        obtain ⟨vl, hvl⟩ : ∃ vl, vd.bytes.length = vl := ⟨_, rfl⟩
        obtain ⟨vk, hvk⟩ : ∃ vk, vd.kids.length = vk := ⟨_, rfl⟩
        simp only [hvl, hvk]
        have Hb8 := hide ((unhide Hbk10).trans (hb6.mono (unhide Hbk10).size))
        have Hb9 : Hid (Below w0.heap.size w0 (w6.alloc (.cells #[.int .i64 vd.cls, .int .i64 vd.tag, .bool vd.made, .slice r1 vl t1, .slice r2 vk t2] 26))) := (unhide Hb8).alloc (unhide Hb8).size _
        clear hb6 hv6 hvd hvl hvk Hrd10
        have Hp1 : Hid (decide (er0 = 0) = pb) := by show _ = _; rw [← unhide Her0]; have h := err_read (t := 19) (by omega) S.data.toList (by have := unhide Hlen; omega) (S.data.toList.all printP) (form_print _); rw [unhide Hlen, ← (unhide HPa).1] at h; exact h
        have Hp2 : Hid (decide (er10 = 0) = ab) := by show _ = _; rw [← unhide Her10]; have h := err_read (t := 22) (by omega) S.data.toList (by have := unhide Hlen; omega) (S.data.toList.all (fun c => decide (c.toNat < 128))) (form_ascii _); rw [unhide Hlen, ← (unhide HPa).2] at h; exact h
        have x1 : ((er0 : Int) == 0) = pb := by rw [← unhide Hp1]; by_cases h : er0 = 0 <;> simp [h]
        have x2 : ((er10 : Int) == 0) = ab := by rw [← unhide Hp2]; by_cases h : er10 = 0 <;> simp [h]
        go_wp2_with fail
        refine (unhide Hdp _ (unhide Hb9)).mono ?_
        rintro e w10 ⟨rfl, hb10⟩
        have Hb10 := hide ((unhide Hb9).trans (hb10.mono (unhide Hb9).size))
        clear hb10
        go_wp2_with fail
        refine (unhide Hpr _).mono ?_
        rintro e w11 ⟨rfl, rfl⟩
        obtain ⟨pc, hpc⟩ : ∃ pc, printP c = pc := ⟨_, rfl⟩
        rw [hpc]
        have pcc : (pc == pc) = true := by simp
        have pbb : (pb == pb) = true := by simp
        have abb : (ab == ab) = true := by simp
        go_wp2
        go_ret
        exact ⟨by first | rfl | simp, unhide Hb10⟩
end Go.Proofs.YtngkidlgcdofhabDoor
