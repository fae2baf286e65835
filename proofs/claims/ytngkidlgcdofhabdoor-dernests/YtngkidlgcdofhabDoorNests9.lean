/-
  The walk of the statement DerNests.
-/
import Derived.Test.YtngkidlgcdofhabDoorNest9
import Derived.Test.YtngkidlgcdofhabDoorAnc9
namespace Go.Proofs.YtngkidlgcdofhabDoor
open Go.RowKit
theorem grown_row (w : World) (g : Nat) (cs : Array Value) : w.grownBy (w.setRow g cs) (some g) :=
  ⟨rfl, rfl, rfl, by simp, fun k _ hk => setRow_other w g k _ (fun e => hk (by rw [e]))⟩
/-- The value behind k rounds, in its block. -/
structure NestAt (w1 wr : World) (T c k : Nat) (kc kt : Int) (km : Bool) (s2 : Option Addr) (kk c2 : Nat) : Prop where
  row : wr.heap[T]? = some (.cells #[.int .i64 kc, .int .i64 kt, .bool km, .slice none 0 0, .slice s2 kk c2] 26 (0, 0))
  val : VAt (k + 1) (fun b => b ≠ T) wr (dcells kc kt km (.slice none 0 0) (.slice s2 kk c2)) (nest c k)
  old : w1.heap.size ≤ T
  b : Below w1.heap.size w1 wr
theorem NestAt.next {w1 wr : World} {T c k : Nat} {kc kt : Int} {km : Bool} {s2 : Option Addr} {kk c2 : Nat} (h : NestAt w1 wr T c k kc kt km s2 kk c2) :
    NestAt w1 ((wr.alloc (.cells #[.int .i64 kc, .int .i64 kt, .bool km, .slice none 0 0, .slice s2 kk c2] 26)).setRow T #[.int .i64 c, .int .i64 16, .bool true, .slice none 0 0, .slice (some ⟨wr.heap.size, 0, none⟩) 1 1]) T c (k + 1) c 16 true (some ⟨wr.heap.size, 0, none⟩) 1 1 := by
  have hlt : T < wr.heap.size := (Array.getElem?_eq_some_iff.1 h.row).1
  obtain ⟨wa, hwa⟩ : ∃ wa, wr.alloc (.cells #[.int .i64 kc, .int .i64 kt, .bool km, .slice none 0 0, .slice s2 kk c2] 26) = wa := ⟨_, rfl⟩
  have hba : Below wr.heap.size wr wa := by rw [← hwa]; exact (Below.refl _ _).alloc (Nat.le_refl _) _
  have hca : CellsAt wa wr.heap.size 0 (dcells kc kt km (.slice none 0 0) (.slice s2 kk c2)) := by rw [← hwa]; exact cells_new wr _ 26
  have hrow : wa.heap[T]? = some (.cells #[.int .i64 kc, .int .i64 kt, .bool km, .slice none 0 0, .slice s2 kk c2] 26 (0, 0)) := by rw [hba.block T hlt]; exact h.row
  rw [hwa]
  have hg := grown_row wa T #[.int .i64 c, .int .i64 16, .bool true, .slice none 0 0, .slice (some ⟨wr.heap.size, 0, none⟩) 1 1]
  have hB1 : Below w1.heap.size w1 wa := h.b.trans (hba.mono h.b.size)
  refine ⟨setRow_heap wa T _ _ 26 (0, 0) hrow, ?_, h.old, hB1.grown hg hB1.size (fun g e => by simp only [Option.some.injEq] at e; have := h.old; omega)⟩
  refine ⟨.slice none 0 0, _, _, rfl, bytes_nil _, fun hne => absurd rfl hne, ⟨by simp [nest, DV.bytes], by simp [nest, DV.kids]⟩, by simp [nest, DV.kids], fun e => (by cases e), fun _ => ⟨wr.heap.size, 0, rfl, by omega, fun i k' hik => ?_⟩⟩
  have hi : i = 0 ∧ nest c k = k' := by
    cases i with
    | zero => simp [nest, DV.kids] at hik; exact ⟨rfl, hik⟩
    | succ i => simp [nest, DV.kids] at hik
  obtain ⟨rfl, rfl⟩ := hi
  refine ⟨_, CellsAt.kept hca hg (fun e => by simp only [Option.some.injEq] at e; omega), (h.val.below hba).kept hg (fun g e hne => by simp only [Option.some.injEq] at e; exact hne e.symm)⟩
theorem nest_kinds (c : Nat) : ∀ k, (nest c k).bytes = []
  | 0 => rfl
  | _ + 1 => rfl
theorem NestAt.mk0 (w1 : World) (c : Nat) : NestAt w1 (w1.alloc (.cells #[.int .i64 0, .int .i64 5, .bool false, .slice none 0 0, .slice none 0 0] 26)) w1.heap.size c 0 0 5 false none 0 0 :=
  ⟨heap_alloc_new w1 _, ⟨.slice none 0 0, none, 0, rfl, bytes_nil _, fun hne => absurd rfl hne, ⟨by simp [nest, DV.bytes], by simp [nest, DV.kids]⟩, by simp [nest, DV.kids], fun _ => rfl, fun h => absurd rfl h⟩, Nat.le_refl _, (Below.refl _ _).alloc (Nat.le_refl _) _⟩
set_option maxRecDepth 100000 in
set_option maxHeartbeats 4000000 in
theorem nests_true {R : World → Prop} (C : Der R) (w0 : World) (hR : R w0) (d cl : Int) :
    Calls Tryd.prog 3 #[.int .i64 d, .int .i64 cl] w0 fun e w' => e = .returned (.bool true) ∧ Below w0.heap.size w0 w' := by
  have HC := hide C
  have HR : Hid (∀ w, Below w0.heap.size w0 w → R w) := fun w hb => C.below _ _ hR hb
  have Hanc := hide (anchor_any C w0 hR)
  clear C hR
  go_enter Tryd.func3, Tryd.ntmps3
  go_wp2_with fail
  refine (unhide Hanc).mono ?_
  rintro e w1 ⟨rfl, hb1⟩
  have Hb1 := hide hb1
  clear hb1 Hanc
  by_cases g0 : d < 0
  · have f0 : decide (d < 0) = true := by simp; omega
    go_wp2
    go_ret
    exact ⟨rfl, unhide Hb1⟩
  have f0 : decide (d < 0) = false := by simp; omega
  by_cases g1 : 60 < d
  · have f1 : decide (60 < d) = true := by simp; omega
    go_wp2
    go_ret
    exact ⟨rfl, unhide Hb1⟩
  have f1 : decide (60 < d) = false := by simp; omega
  by_cases g2 : cl < 0
  · have f2 : decide (cl < 0) = true := by simp; omega
    go_wp2
    go_ret
    exact ⟨rfl, unhide Hb1⟩
  have f2 : decide (cl < 0) = false := by simp; omega
  by_cases g3 : 3 < cl
  · have f3 : decide (3 < cl) = true := by simp; omega
    go_wp2
    go_ret
    exact ⟨rfl, unhide Hb1⟩
  have f3 : decide (3 < cl) = false := by simp; omega
  obtain ⟨d, rfl⟩ : ∃ k : Nat, d = (k : Int) := ⟨d.toNat, by omega⟩
  obtain ⟨c, rfl⟩ : ∃ k : Nat, cl = (k : Int) := ⟨cl.toNat, by omega⟩
  have hd : d ≤ 60 := by omega
  have hc : c ≤ 3 := by omega
  have HN0 := hide (NestAt.mk0 w1 c)
  clear g0 g1 g2 g3
  obtain ⟨T, hT⟩ : ∃ T, w1.heap.size = T := ⟨_, rfl⟩
  rw [hT] at HN0
  go_wp2
  obtain ⟨w2, hw2⟩ : ∃ w2, w1.alloc (.cells #[.int .i64 0, .int .i64 5, .bool false, .slice none 0 0, .slice none 0 0] 26) = w2 := ⟨_, rfl⟩
  rw [hw2]
  rw [hw2] at HN0
  clear hw2 hT
  go_loopw [6] (fun ii wr => ∃ (k : Nat) (kc kt : Int) (km : Bool) (s2 : Option Addr) (kk c2 : Nat), k ≤ d ∧ ii = .int .i64 (k : Int) ∧ Hid (NestAt w1 wr T c k kc kt km s2 kk c2)) (fun ii _ => d - (intOf ii).toNat)
  case atStart => exact ⟨0, 0, 5, false, none, 0, 0, by omega, rfl, HN0⟩
  case round =>
    obtain ⟨k, kc, kt, km, s2, kk, c2, hk, rfl, HN⟩ := hrel
    have hcell : CellsAt wr T 0 (dcells kc kt km (.slice none 0 0) (.slice s2 kk c2)) := fun j u hu => by
      rw [cell_of_row _ _ _ _ 26 (0, 0) (unhide HN).row, Nat.zero_add]
      simpa [dcells] using hu
    obtain ⟨a0, a1, a2, a3, a4⟩ := hcell.five0
    by_cases hlt : k < d
    · have e1 : decide ((k : Int) < (d : Int)) = true := by simp; omega
      have e1n : decide (k < d) = true := by simp; omega
      have HN2 := hide (unhide HN).next
      have HT : Hid ((wr.alloc (.cells #[.int .i64 kc, .int .i64 kt, .bool km, .slice none 0 0, .slice s2 kk c2] 26)).heap[T]? = some (.cells #[.int .i64 kc, .int .i64 kt, .bool km, .slice none 0 0, .slice s2 kk c2] 26 (0, 0))) := by
        show _ = _
        rw [((Below.refl wr.heap.size wr).alloc (Nat.le_refl _) _).block T ((Array.getElem?_eq_some_iff.1 (unhide HN).row).1)]
        exact (unhide HN).row
      have hsz5 : (Tryd.prog.info? 26).map (·.size) = some 5 := by kernel_rfl
      have H5 : Hid ((#[.int .i64 (c : Int), .int .i64 16, .bool true, .slice none 0 0, .slice (some ⟨wr.heap.size, 0, none⟩) 1 1] : Array Value).all (·.oneCell') = true) := by show _ = true; simp [Value.oneCell']
      clear hcell HN HN0
      go_wp2_with (refine wpList_store_row rfl 26 _ _ rfl T _ rfl rfl 26 _ (unhide HT) hsz5 rfl (unhide H5) ?_)
      go_roundw
      case rel =>
        first
          | exact ⟨k + 1, c, 16, true, _, 1, 1, by omega, by go_num, HN2⟩
          | ((repeat apply Exists.intro); exact ⟨⟨k + 1, c, 16, true, _, 1, 1, by omega, by go_num, HN2⟩, rfl⟩)
      case measure => simp [intOf]; omega
    · obtain rfl : k = d := by omega
      have e1 : decide ((k : Int) < (k : Int)) = false := by simp
      have Hb3 := hide ((unhide Hb1).trans ((unhide HN).b.mono (unhide Hb1).size))
      have Hw := hide ((unhide HC).write wr _ _ _ (unhide HR wr (unhide Hb3)) ⟨_, (unhide HN).val⟩ (by rw [weight_nest]; omega))
      unfold dcells at Hw
      clear hcell HN HN0
      go_wp2_with fail
      refine (unhide Hw).mono ?_
      rintro e w4 ⟨x4, rfl, hO4, hb4⟩
      have HX4 := hide hO4.bytes
      obtain ⟨p4, q4, rfl⟩ := hO4.form
      have Hb4 := hide ((unhide Hb3).trans (hb4.mono (unhide Hb3).size))
      clear hO4 hb4 Hw a0 a1 a2 a3 a4 Hb3
      by_cases h16 : 16 < k
      · have d1 : decide ((16 : Int) < (k : Int)) = true := by simp; omega
        have d1n : decide (16 < k) = true := by simp; omega
        have Ht := hide (top_deep hc h16)
        have Hrd0 := hide (read_deep hc h16 hd)
        rw [unhide Ht] at HX4
        rw [unhide Ht]
        simp only [errOf, bytesOf, List.length_nil] at HX4 ⊢
        have HW0 : Hid (Row w4 w4 (.slice none 0 0) (heads c k 0)) := ⟨ownb_nil _ _, Below.refl _ _⟩
        have Hall := hide (heads_all c k)
        clear Ht h16
        go_wp2
        go_loopw [9, 10] (fun vv ii wr => ∃ (j : Nat) (s : Option Addr) (cp : Nat), j ≤ k ∧ ii = .int .i64 (j : Int) ∧ vv = .slice s (2 * j) cp ∧ Hid (Row w4 wr (.slice s (2 * j) cp) (heads c k j))) (fun _ ii _ => k - (intOf ii).toNat)
        case atStart => exact ⟨0, none, 0, by omega, rfl, rfl, HW0⟩
        case round =>
          rename World => wq
          obtain ⟨j, s, cp, hj, rfl, rfl, HRo⟩ := hrel
          by_cases hlt2 : j < k
          · have l1 : decide ((j : Int) < (k : Int)) = true := by simp; omega
            have l1n : decide (j < k) = true := by simp; omega
            have u1 : IntKind.u8.wrap ((c : Int) * 64 + 48) = ((64 * c + 48 : Nat) : Int) := by rw [IntKind.wrap_u8']; omega
            obtain ⟨m, hm⟩ : ∃ m, k - j = m := ⟨_, rfl⟩
            have hmi : (k : Int) - (j : Int) = (m : Int) := by omega
            have u2 : IntKind.u8.wrap (2 * (m : Int)) = ((2 * m : Nat) : Int) := by rw [IntKind.wrap_u8']; omega
            have v1 : ((UInt8.ofNat (64 * c + 48)).toNat : Int) = ((64 * c + 48 : Nat) : Int) := by rw [UInt8.toNat_ofNat']; omega
            have v2 : ((UInt8.ofNat (2 * m)).toNat : Int) = ((2 * m : Nat) : Int) := by rw [UInt8.toNat_ofNat']; omega
            obtain ⟨A1, hA1⟩ : ∃ A1 : Nat, 64 * c + 48 = A1 := ⟨_, rfl⟩
            obtain ⟨A2, hA2⟩ : ∃ A2 : Nat, 2 * m = A2 := ⟨_, rfl⟩
            rw [hA1] at u1 v1
            rw [hA2] at u2 v2
            have HY : Hid (BytesAt (wq.alloc (.cells #[.int .u8 (A1 : Int), .int .u8 (A2 : Int)] 5)) (.slice (some ⟨wq.heap.size, 0, none⟩) 2 2) [UInt8.ofNat A1, UInt8.ofNat A2]) := by
              have := bytes_new wq [UInt8.ofNat A1, UInt8.ofNat A2]
              simp only [List.map_cons, List.map_nil, bv, v1, v2] at this
              exact this
            have HRo2 := hide ((unhide HRo).lit (.cells #[.int .u8 (A1 : Int), .int .u8 (A2 : Int)] 5))
            have Hll : Hid ((heads c k j).length + [UInt8.ofNat A1, UInt8.ofNat A2].length ≤ 1073741824) := by show _ ≤ _; rw [heads_len]; simp; omega
            have Hnx : Hid (heads c k j ++ [UInt8.ofNat A1, UInt8.ofNat A2] = heads c k (j + 1)) := by show _ = _; rw [← hA1, ← hA2, ← hm]; rfl
            have cb : (c : Int) ≤ 3 := by omega
            have kb : (k : Int) ≤ 60 := by omega
            have mb : (m : Int) ≤ 60 := by omega
            clear v1 v2 hA1 hA2 hm HRo HW0
            go_wp2_with (first
              | (at_builtin; refine wpList_append_row rfl _ _ rfl (.slice s (2 * j) cp) (.slice (some ⟨wq.heap.size, 0, none⟩) 2 2) (heads c k j) [UInt8.ofNat A1, UInt8.ofNat A2] rfl (unhide HRo2) rfl (unhide HY) (unhide Hll) ?_
                 intro v5 w5 hR5
                 rw [unhide Hnx] at hR5
                 obtain ⟨s5, c5, rfl⟩ := hR5.own.form
                 rw [heads_len] at hR5
                 rw [heads_len]
                 have HR5 := hide hR5
                 clear hR5))
            go_roundw
            case rel =>
              first
                | exact ⟨j + 1, s5, c5, by omega, by go_num, rfl, HR5⟩
                | ((repeat apply Exists.intro); exact ⟨⟨j + 1, s5, c5, by omega, by go_num, rfl, HR5⟩, rfl⟩)
            case measure => simp [intOf]; omega
          · obtain rfl : j = k := by omega
            have l1 : decide ((j : Int) < (j : Int)) = false := by simp
            have HY : Hid (BytesAt (wq.alloc (.cells #[.int .u8 5, .int .u8 0] 5)) (.slice (some ⟨wq.heap.size, 0, none⟩) 2 2) [5, 0]) := bytes_new wq [5, 0]
            have HRo2 := hide ((unhide HRo).lit (.cells #[.int .u8 5, .int .u8 0] 5))
            have Hll : Hid ((heads c j j).length + ([5, 0] : Bs).length ≤ 1073741824) := by show _ ≤ _; rw [heads_len]; simp; omega
            clear HRo HW0
            go_wp2_with (first
              | (at_builtin; refine wpList_append_row rfl _ _ rfl (.slice s (2 * j) cp) (.slice (some ⟨wq.heap.size, 0, none⟩) 2 2) (heads c j j) [5, 0] rfl (unhide HRo2) rfl (unhide HY) (unhide Hll) ?_
                 intro v5 w5 hR5
                 rw [unhide Hall] at hR5
                 have HR5 := hide hR5
                 clear hR5))
            have Hb5 := hide ((unhide Hb4).trans ((unhide HR5).b.mono (unhide Hb4).size))
            refine ((unhide HC).read w5 v5 _ (unhide HR w5 (unhide Hb5)) (unhide HR5).bytes (by rw [len_nestB]; omega)).mono ?_
            rintro e w6 ⟨cs6, rfl, ⟨n6, hv6⟩, hb6⟩
            rw [unhide Hrd0] at hv6 ⊢
            simp only [errOf, valOf] at hv6 ⊢
            obtain ⟨r1, t1, r2, t2, rfl⟩ := hv6.form
            simp only [DV.cls, DV.tag, DV.made, DV.bytes, DV.kids, List.length_nil]
            unfold dcells
            have Hb6 := hide ((unhide Hb5).trans (hb6.mono (unhide Hb5).size))
            clear hb6 hv6
            go_wp2
            go_ret
            exact ⟨rfl, (unhide Hb6).alloc (unhide Hb6).size _⟩
      · have d1 : decide ((16 : Int) < (k : Int)) = false := by simp; omega
        have d1n : decide (16 < k) = false := by simp; omega
        have Ht := hide (top_nest hc (by omega : k ≤ 16))
        have Hrd0 := hide (read_written (unhide Ht))
        rw [unhide Ht] at HX4
        rw [unhide Ht]
        simp only [errOf, bytesOf] at HX4 ⊢
        have Hrd := hide ((unhide HC).read w4 _ _ (unhide HR w4 (unhide Hb4)) (unhide HX4) (by rw [len_nestB]; omega))
        rw [unhide Hrd0] at Hrd
        simp only [errOf, valOf] at Hrd
        obtain ⟨N, hN⟩ : ∃ N, 2 * k + 2 = N := ⟨_, rfl⟩
        have hNi : 2 * (k : Int) + 2 = (N : Int) := by omega
        simp only [len_nestB, hN] at Hrd HX4 ⊢
        have eN : ((N : Int) == (N : Int)) = true := by simp
        have kb : (k : Int) ≤ 60 := by omega
        clear Ht h16 Hrd0 hN
        go_wp2_with fail
        refine (unhide Hrd).mono ?_
        rintro e w6 ⟨cs6, rfl, ⟨n6, hv6⟩, hb6⟩
        obtain ⟨r1, t1, r2, t2, rfl⟩ := hv6.form
        unfold dcells
        have Hb6 := hide ((unhide Hb4).trans (hb6.mono (unhide Hb4).size))
        clear hb6 hv6 Hrd
        go_wp2
        go_ret
        exact ⟨rfl, (unhide Hb6).alloc (unhide Hb6).size _⟩
end Go.Proofs.YtngkidlgcdofhabDoor
