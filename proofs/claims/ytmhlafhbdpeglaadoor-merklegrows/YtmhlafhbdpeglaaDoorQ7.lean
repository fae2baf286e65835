/-
  The walk of padding: the bytes that follow a message of so many bytes, in new memory.
  The walks of New, Len and Sum of an object: the sum of what it was told, in new memory; the object is as it was.
  The walk of Sum: the sum of a message, in new memory; nothing that was there has turned.
-/
import Derived.Test.YtmhlafhbdpeglaaDoorQ6
namespace Go.Proofs.YtmhlafhbdpeglaaDoor.Sha
open Go.RowKit
def byteAt (n k : Nat) : UInt8 := UInt8.ofNat (n / 2 ^ (56 - 8 * k))
def bytesTo (n : Nat) : Nat → List UInt8
  | 0 => []
  | k + 1 => bytesTo n k ++ [byteAt n k]
theorem length_bytesTo (n k : Nat) : (bytesTo n k).length = k := by
  induction k with
  | zero => rfl
  | succ k ih => simp [bytesTo, ih]
def padHead (told : Nat) : List UInt8 := 128 :: List.replicate ((119 - told % 64) % 64) 0
/-- What follows a message of so many bytes. -/
def padOf (told : Nat) : List UInt8 := padHead told ++ bytesTo (8 * told) 8
theorem byte_form (told k : Nat) : 8 * (told : Int) / 2 ^ (56 - 8 * k) % 256 = ib (byteAt (8 * told) k) := by
  unfold ib byteAt
  rw [UInt8.toNat_ofNat']
  rw [show ((2 : Int) ^ (56 - 8 * k)) = ((2 ^ (56 - 8 * k) : Nat) : Int) from by simp, show (8 * (told : Int)) = ((8 * told : Nat) : Int) from by omega]
  rfl
theorem make_pad (w : World) (z : Nat) (hz : z ≤ 63) : ∃ W, (Instr.makeSlice 28 (.int .i64 (1 + (z : Int))) (.int .i64 (1 + (z : Int) + 8))).run Tryd.prog w = .ok (.slice (some ⟨w.heap.size, 0, none⟩) (1 + z) (9 + z)) W ∧
    W.heap[w.heap.size]? = some (.cells (List.replicate (9 + z) (.int .u8 0)).toArray 5 (0, 0)) ∧ Below w.heap.size w W ∧ W.heap.size = w.heap.size + 1 := by
  obtain ⟨i, hi, h0, hsz, hby⟩ := info5
  refine ⟨w.alloc (.cells (List.replicate (9 + z) (.int .u8 0)).toArray 5), ?_, heap_alloc_new _ _, (Below.refl _ _).alloc (Nat.le_refl _) _, by simp⟩
  have h := run_make (P := Tryd.prog) w 28 5 i (.int .u8 0) Tryd.underlying28 hi h0 .i64 .i64 (1 + (z : Int)) (1 + (z : Int) + 8) (by omega) (by omega) (by rw [hby]; omega) (by omega)
  rw [h, hsz, show (1 + (z : Int)).toNat = 1 + z from by omega, show (1 + (z : Int) + 8).toNat = 9 + z from by omega]
  have e : madeCells (Value.int .u8 0).cells ((9 + z) * 1) = (List.replicate (9 + z) (.int .u8 0)).toArray := by
    rw [Nat.mul_one]
    apply Array.ext
    · simp [madeCells]
    · intro j h1 h2
      simp [madeCells, Value.cells, Nat.mod_one]
  rw [e]
set_option maxRecDepth 100000 in
set_option maxHeartbeats 1000000 in
theorem padding_any (told : Nat) (ht : told ≤ 1099511627776) (w : World) :
    Calls Tryd.prog 57 #[.int .i64 (told : Int)] w fun e w' => ∃ v, e = .returned v ∧ OwnB w' w.heap.size v (padOf told) ∧ Below w.heap.size w w' := by
  generalize ho : told % 64 = o
  generalize hz : (119 - o) % 64 = z
  have hz63 : z ≤ 63 := by omega
  have ht0 : (0 : Int) ≤ (told : Int) := by omega
  have ht1 : (told : Int) ≤ 1099511627776 := by omega
  have hto : ((told : Int)).tmod 64 = (o : Int) := by rw [Int.tmod_eq_emod_of_nonneg (by omega)]; omega
  have htz : (119 - (o : Int)).tmod 64 = (z : Int) := by rw [Int.tmod_eq_emod_of_nonneg (by omega)]; omega
  have ho63 : (o : Int) ≤ 63 := by omega
  have hzz : (z : Int) ≤ 63 := by omega
  obtain ⟨W1, hmk, h1, hb1, hs1⟩ := make_pad w z hz63
  have c1 : W1.cell? ⟨w.heap.size, 0, none⟩ = some (.int .u8 0) := by rw [cell_of_row _ _ 0 _ 5 (0, 0) h1, List.getElem?_toArray, List.getElem?_replicate, if_pos (by omega)]
  have f1 : W1.frozen? ⟨w.heap.size, 0, none⟩ = false := frozen_of_row _ _ _ _ 5 h1
  have h2 := heap_setCell_same W1 w.heap.size 0 _ 5 (.int .u8 128) h1
  have hb2 := hb1.setCell (p := ⟨w.heap.size, 0, none⟩) (Nat.le_refl _) (.int .u8 128)
  have hs2 : (W1.setCell ⟨w.heap.size, 0, none⟩ (.int .u8 128)).heap.size = w.heap.size + 1 := by rw [World.size_setCell]; exact hs1
  generalize hE2 : W1.setCell ⟨w.heap.size, 0, none⟩ (.int .u8 128) = W2 at h2 hb2 hs2
  have hO : OwnB W2 w.heap.size (.slice (some ⟨w.heap.size, 0, none⟩) (1 + z) (9 + z)) (padHead told) := by
    have hl : (padHead told).length = 1 + z := by simp [padHead, ho, hz]; omega
    refine ⟨by simp, Or.inr ⟨w.heap.size, 9 + z, _, by rw [hl], Nat.le_refl _, h2, by omega, by simp only [maxLen]; omega, by simp, ?_⟩⟩
    rw [hl, Nat.mul_one, List.setIfInBounds_toArray, List.toList_toArray]
    obtain ⟨m, hm⟩ : ∃ m, 9 + z = m + 1 := ⟨8 + z, by omega⟩
    rw [hm, List.replicate_succ, List.set_cons_zero, Nat.add_comm 1 z, List.take_succ_cons, List.take_replicate, Nat.min_eq_left (by omega)]
    simp [padHead, ho, hz, bv]; exact ⟨rfl, Or.inr rfl⟩
  have HO := hide hO
  have HB := hide hb2
  have Hz := hide hz
  have Ho := hide ho
  clear hO hb2 h2 hb1 hz ho h1
  go_enter Tryd.func57, Tryd.ntmps57
  go_wp2
  go_loopw [4, 6] (fun v i wr => ∃ k : Nat, k ≤ 8 ∧ i = .int .i64 (56 - 8 * (k : Int)) ∧ OwnB wr w.heap.size v (padHead told ++ bytesTo (8 * told) k) ∧ Below w.heap.size w wr ∧ w.heap.size ≤ wr.heap.size) (fun _ i _ => (intOf i + 8).toNat)
  case atStart => exact ⟨0, by omega, rfl, by rw [bytesTo, List.append_nil]; exact unhide HO, unhide HB, by omega⟩
  case round =>
    obtain ⟨k, hk, rfl, hO, hB, hS⟩ := hrel
    clear HO HB
    by_cases hlt : k < 8
    · have hO1 := hide hO
      clear hO
      have hv : 8 * (told : Int) / 2 ^ (56 - 8 * k) % 256 = ib (byteAt (8 * told) k) := byte_form told k
      have HBk : Hid (bytesTo (8 * told) (k + 1) = bytesTo (8 * told) k ++ [byteAt (8 * told) k]) := rfl
      generalize byteAt (8 * told) k = B at hv HBk
      have hln : (padHead told ++ bytesTo (8 * told) k).length + 1 ≤ 1073741824 := by
        rw [List.length_append, length_bytesTo]; simp only [padHead, List.length_cons, List.length_replicate]; omega
      have Hln := hide hln
      clear hln
      have k8 : 8 * (k : Int) ≤ 56 := by omega
      go_wp2_with (at_builtin; refine wpList_append_bytes rfl _ _ rfl w.heap.size _ _ (padHead told ++ bytesTo (8 * told) k) [B] rfl ((unhide hO1).alloc _) rfl (bytes_new wr [B] 5 (by simp)) (by simp; omega) (unhide Hln) ?_; intro v' w' hO2 hg2)
      go_roundw
      case rel =>
        have hO3 : OwnB w' w.heap.size v' (padHead told ++ bytesTo (8 * told) (k + 1)) := by rw [unhide HBk, ← List.append_assoc]; exact hO2
        have hB3 : Below w.heap.size w w' := Fresh.grown ((unhide hO1).alloc _) hg2 (hB.alloc hS _) (by simp; omega)
        have hS3 : w.heap.size ≤ w'.heap.size := by have := hg2.size; simp at this; omega
        have hi : Value.int .i64 (56 - 8 * (k : Int) - 8) = .int .i64 (56 - 8 * ((k + 1 : Nat) : Int)) := congrArg _ (by omega)
        first
          | exact ⟨k + 1, by omega, hi, hO3, hB3, hS3⟩
          | ((repeat apply Exists.intro); exact ⟨⟨k + 1, by omega, hi, hO3, hB3, hS3⟩, rfl⟩)
      case measure => simp [intOf]; omega
    · obtain rfl : k = 8 := by omega
      clear hlt hk
      have hO1 := hide hO
      clear hO
      go_wp2
      go_ret
      exact ⟨_, rfl, unhide hO1, hB⟩
end Go.Proofs.YtmhlafhbdpeglaaDoor.Sha
namespace Go.Proofs.YtmhlafhbdpeglaaDoor.Sha
open Go.RowKit
/-- The bytes of a word, the highest first. -/
def wordBytes (x : UInt32) : List UInt8 := [(x >>> 24).toUInt8, (x >>> 16).toUInt8, (x >>> 8).toUInt8, x.toUInt8]
def outTo (st : List UInt32) (k : Nat) : List UInt8 := (st.take k).flatMap wordBytes
theorem ib_toUInt8 (x : UInt32) : ib x.toUInt8 = iv x % 256 := by
  unfold ib iv; rw [UInt32.toNat_toUInt8]; omega
theorem out24 (x : UInt32) : iv x / (16777216 : Int) % 256 = ib (x >>> (24 : UInt32)).toUInt8 := by
  have h := shr_word x 24 (by omega)
  rw [Int.fdiv_eq_ediv_of_nonneg _ (by decide)] at h
  rw [ib_toUInt8]; exact congrArg (· % 256) h
theorem out16 (x : UInt32) : iv x / (65536 : Int) % 256 = ib (x >>> (16 : UInt32)).toUInt8 := by
  have h := shr_word x 16 (by omega)
  rw [Int.fdiv_eq_ediv_of_nonneg _ (by decide)] at h
  rw [ib_toUInt8]; exact congrArg (· % 256) h
theorem out8 (x : UInt32) : iv x / (256 : Int) % 256 = ib (x >>> (8 : UInt32)).toUInt8 := by
  have h := shr_word x 8 (by omega)
  rw [Int.fdiv_eq_ediv_of_nonneg _ (by decide)] at h
  rw [ib_toUInt8]; exact congrArg (· % 256) h
theorem outTo_succ (st : List UInt32) (k : Nat) (h : k < st.length) : outTo st (k + 1) = outTo st k ++ wordBytes (st.getD k 0) := by
  unfold outTo
  rw [List.take_succ_eq_append_getElem h, List.flatMap_append]
  simp [List.getD_eq_getElem?_getD, h]
theorem length_outTo (st : List UInt32) (k : Nat) (h : k ≤ st.length) : (outTo st k).length = 4 * k := by
  induction k with
  | zero => rfl
  | succ k ih => rw [outTo_succ st k (by omega), List.length_append, ih (by omega)]; simp [wordBytes]; omega
/-- The sum of what the object was told. -/
def digest (s : HS) : List UInt8 := (feed s (padOf s.told)).st.flatMap wordBytes
def StartAt (w : World) : Prop := ∃ tk fr, w.heap[0]? = some (.cells (hTab.map wv).toArray tk fr)
theorem built_new : Tryd.prog.built 77 [(0, .agg (hTab.map wv).toArray)] = some (hcells hs0).toArray := by kernel_rfl
set_option maxRecDepth 100000 in
set_option maxHeartbeats 1000000 in
theorem new_any (w : World) (h0 : StartAt w) :
    Calls Tryd.prog 47 #[] w fun e w' => e = .returned (.pointer (some ⟨w.heap.size, 0, none⟩)) ∧ w' = w.alloc (.cells (hcells hs0).toArray 77) := by
  obtain ⟨tk, fr, h⟩ := h0
  have H := hide h
  clear h
  generalize hss : (hTab.map wv).toArray = ss at H
  generalize hcc : (hcells hs0).toArray = cc
  have hb : Tryd.prog.built 77 [(0, .agg ss)] = some cc := by rw [← hss, ← hcc]; exact built_new
  have hz : ss.size = 8 := by rw [← hss]; rfl
  have Hb := hide hb
  clear hss hcc hb
  go_enter Tryd.func47, Tryd.ntmps47
  go_wp2_with (first | (refine wpList_load_row rfl 69 _ rfl 0 rfl tk ss fr _ (unhide H) Tryd.underlying69 rfl (by rw [hz]; kernel_rfl) ?_) | (refine wpList_build rfl 77 _ rfl (by simp [go_sem, unhide Hb]) ?_))
  go_ret
  exact ⟨rfl, by rw [unhide Hb]; rfl⟩
theorem write_val (g : Nat) (hg1 : 1 < g) (s : HS) (hs : s.ok) (w : World) (hg : HashAt w g s) (hK : TabAt w) (x : Value) (l : List UInt8) (hx : BytesAt w x l) (hne : l ≠ [] → x.ownBlock ≠ some g) (ht : s.told + l.length ≤ 4611686018427387904) :
    Calls Tryd.prog 48 #[.pointer (some ⟨g, 0, none⟩), x] w fun e w' => e = .returned (.tuple #[]) ∧ HashAt w' g (feed s l) ∧ w.grownBy w' (some g) := by
  obtain ⟨sp, c, rfl, h1, _, h3⟩ := hx
  refine write_any g hg1 s hs w hg hK sp l c h1 (fun hl => ?_) ht
  obtain ⟨b, o, rfl, hr⟩ := h3 hl
  exact ⟨b, o, rfl, by simpa [Value.ownBlock] using hne hl, hr⟩
def zero47 : Array Value := (List.replicate 8 (Value.int .u32 0) ++ List.replicate 64 (Value.int .u8 0) ++ [Value.int .i64 0]).toArray
theorem info77 : (Tryd.prog.info? 77).map (fun i => (i.zero, i.size)) = some (some (.agg zero47), 73) := by kernel_rfl
theorem size_zero47 : zero47.size = 73 := rfl
theorem make_out (w : World) : ∃ W, (Instr.makeSlice 28 (.int .i64 0) (.int .i64 32)).run Tryd.prog w = .ok (.slice (some ⟨w.heap.size, 0, none⟩) 0 32) W ∧ OwnB W w.heap.size (.slice (some ⟨w.heap.size, 0, none⟩) 0 32) [] ∧ Below w.heap.size w W := by
  obtain ⟨i, hi, h0, hsz, hby⟩ := info5
  obtain ⟨W, h1, h2, h3⟩ := run_make_own (P := Tryd.prog) w w.heap.size 28 5 i (.int .u8 0) 1 Tryd.underlying28 hi h0 hsz .i64 .i64 32 (by rw [hby]; omega) (by simp only [maxLen]; omega) (Nat.le_refl _)
  exact ⟨W, h1, h2, (Below.refl _ _).grown h3 (Nat.le_refl _) (fun k hk => by cases hk)⟩
theorem HashAt.range_st {w : World} {g : Nat} {s : HS} (h : HashAt w g s) (hs : s.ok) : w.rangeAt g 0 (s.st.map wv) := fun j v hv => by
  have hj : j < 8 := by have := (List.getElem?_eq_some_iff.1 hv).1; rw [List.length_map, hs.1] at this; exact this
  rw [cell_of_row w g _ _ 77 (0, 0) h, Nat.zero_add, hcells_get_st s hs j hj, ← getD_map_wv s.st j (by rw [hs.1]; exact hj), List.getElem?_toArray]; exact hv
theorem HashAt.below {a b : World} {g : Nat} {s : HS} (h : HashAt a g s) (hb : Below a.heap.size a b) : HashAt b g s := by
  show b.heap[g]? = _
  rw [hb.block g (Array.getElem?_eq_some_iff.1 h).1]; exact h
theorem TabAt.below {a b : World} (h : TabAt a) (hb : Below a.heap.size a b) : TabAt b := by
  obtain ⟨tk, fr, hf⟩ := h
  exact ⟨tk, fr, by rw [hb.block 1 (Array.getElem?_eq_some_iff.1 hf).1]; exact hf⟩
theorem size_hcells (s : HS) (hs : s.ok) : (hcells s).toArray.size = 73 := by rw [List.size_toArray]; exact length_hcells s hs
theorem one_hcells (s : HS) : (hcells s).toArray.all (·.oneCell') = true := by
  refine all_oneCell_toArray fun v hv => ?_
  unfold hcells at hv
  rcases List.mem_append.1 hv with h | h
  · rcases List.mem_append.1 h with h | h
    · obtain ⟨x, _, rfl⟩ := List.mem_map.1 h; rfl
    · obtain ⟨x, _, rfl⟩ := List.mem_map.1 h; rfl
  · rw [List.mem_singleton.1 h]; rfl
set_option maxRecDepth 100000 in
set_option maxHeartbeats 1000000 in
theorem hsum_any (g : Nat) (s : HS) (hs : s.ok) (w : World) (hw : 1 < w.heap.size) (hg : HashAt w g s) (hK : TabAt w) (ht : s.told ≤ 1099511627776) :
    Calls Tryd.prog 49 #[.pointer (some ⟨g, 0, none⟩)] w fun e w' => ∃ v, e = .returned v ∧ OwnB w' w.heap.size v (digest s) ∧ Below w.heap.size w w' := by
  have hz := size_hcells s hs
  have h1 := one_hcells s
  have hT := hcells_get_told s hs
  have hgs : g < w.heap.size := (Array.getElem?_eq_some_iff.1 hg).1
  have hW1 : HashAt (w.alloc (.cells (hcells s).toArray 77)) w.heap.size s := heap_alloc_new w _
  have hK1 : TabAt (w.alloc (.cells (hcells s).toArray 77)) := by
    obtain ⟨tk, fr, h⟩ := hK
    exact ⟨tk, fr, by rw [heap_alloc_old _ _ (by omega)]; exact h⟩
  have cT : (w.alloc (.cells (hcells s).toArray 77)).cell? ⟨g, 72, none⟩ = some (.int .i64 (s.told : Int)) := by
    rw [World.cell?_alloc_lt _ _ _ (show (⟨g, 72, none⟩ : Addr).block < _ from hgs), cell_of_row _ _ 72 _ 77 (0, 0) hg]; exact hT
  have hB1 : Below w.heap.size w (w.alloc (.cells (hcells s).toArray 77)) := (Below.refl _ _).alloc (Nat.le_refl _) _
  have hs1 : (w.alloc (.cells (hcells s).toArray 77)).heap.size = w.heap.size + 1 := by simp
  have hrw := fun (c : Array Value) => World.setRow_alloc_new w c (hcells s).toArray 77
  have hzv := (zero_of_info info77).1
  have hzz := size_zero47
  generalize zero47 = Z at hzv hzz
  generalize hhc : (hcells s).toArray = hc at *
  have Hg := hide (show w.heap[g]? = some (.cells hc 77 (0, 0)) by rw [← hhc]; exact hg)
  have H1 := hide h1
  generalize hE : w.alloc (.cells hc 77) = W1 at *
  have HW1 := hide hW1
  have HK1 := hide hK1
  have HB1 := hide hB1
  have HE := hide hE
  clear hg h1 hT hW1 hK1 hB1 hK hhc hE
  go_enter Tryd.func49, Tryd.ntmps49
  go_wp2_with (first | (refine wpList_load_row rfl 77 _ rfl g rfl 77 hc (0, 0) _ (unhide Hg) Tryd.underlying77 rfl (by rw [hz]; kernel_rfl) ?_) | (refine wpList_store_row rfl 77 _ _ rfl w.heap.size hc rfl rfl 77 _ (heap_alloc_new w _) (by rw [hz]; kernel_rfl) (by rw [hz, hzz]) (unhide H1) ?_))
  refine (padding_any s.told ht W1).mono ?_
  rintro e w2 ⟨v2, rfl, hO2, hB2⟩
  go_wp2_with fail
  have hW2 : HashAt w2 w.heap.size s := (unhide HW1).below hB2
  have hK2 : TabAt w2 := (unhide HK1).below hB2
  have hne : v2.ownBlock ≠ some w.heap.size := fun e => by have := hO2.fresh _ e; omega
  have hb2 := hO2.bytes
  have HX := hide hO2
  have HB2 := hide ((unhide HB1).trans (hB2.mono (by omega)))
  have hs2 : w.heap.size + 1 ≤ w2.heap.size := by have := hB2.size; omega
  clear hO2 hB2
  have hpl : (padOf s.told).length ≤ 100 := by
    unfold padOf padHead; rw [List.length_append, length_bytesTo]; simp only [List.length_cons, List.length_replicate]; omega
  refine (write_val w.heap.size hw s hs w2 hW2 hK2 v2 (padOf s.told) hb2 (fun _ => hne) (by omega)).mono ?_
  rintro e w3 ⟨rfl, hH3, hG3⟩
  clear hW2 hK2 hb2 hne HX
  have hok3 := feed_ok s (padOf s.told) hs
  generalize hs3 : feed s (padOf s.told) = s3 at hH3 hok3
  obtain ⟨W4, hmk, hO4, hB4⟩ := make_out w3
  have hH4 := hH3.below hB4
  have HR := hide (hH4.range_st hok3)
  have hl8 : (s3.st.map wv).length = 8 := by rw [List.length_map]; exact hok3.1
  have hsz4 : w.heap.size + 1 ≤ w3.heap.size := by have := hG3.size; omega
  have hB4' : Below w.heap.size w W4 := ((unhide HB2).grown hG3 (by omega) (fun k hk => by cases hk; exact Nat.le_refl _)).trans (hB4.mono (by omega))
  have hO4' : OwnB W4 w.heap.size (.slice (some ⟨w3.heap.size, 0, none⟩) 0 32) [] := by
    obtain ⟨q1, q2⟩ := hO4
    refine ⟨q1, ?_⟩
    rcases q2 with q2 | ⟨g', cap, cur, hv, hb, r⟩
    · exact Or.inl q2
    · exact Or.inr ⟨g', cap, cur, hv, by omega, r⟩
  have hz4 : w.heap.size ≤ W4.heap.size := by have := hB4.size; omega
  have HO4 := hide hO4'
  have HB4 := hide hB4'
  have Hs3 := hide hs3
  have Hok := hide hok3
  clear hs3 hO4 hO4' hB4 hB4' hH3 hH4 hG3 HB2 HB1 HW1 HK1 hok3
  go_wp2_with (refine wpList_load_mid rfl 69 _ rfl w.heap.size 0 rfl (s3.st.map wv) _ (unhide HR) Tryd.underlying69 rfl (by rw [hl8]; kernel_rfl) ?_)
  go_loopw [4, 19] (fun v i wr => ∃ k : Nat, k ≤ 8 ∧ i = .int .i64 k ∧ OwnB wr w.heap.size v (outTo s3.st k) ∧ Below w.heap.size w wr ∧ w.heap.size ≤ wr.heap.size) (fun _ i _ => 8 - (intOf i).toNat)
  case atStart => exact ⟨0, by omega, rfl, unhide HO4, unhide HB4, hz4⟩
  case round =>
    obtain ⟨k, hk, rfl, hO, hB, hS⟩ := hrel
    clear HO4 HB4
    by_cases hlt : k < 8
    · have hI := fun w => run_index8 w (s3.st.map wv).toArray k _ hlt (getD_map_wv s3.st k (by rw [(unhide Hok).1]; exact hlt))
      have HBk : Hid (outTo s3.st (k + 1) = outTo s3.st k ++ wordBytes (s3.st.getD k 0)) := outTo_succ s3.st k (by rw [(unhide Hok).1]; exact hlt)
      generalize s3.st.getD k 0 = x at hI HBk
      have hO1 := hide hO
      clear hO
      have v0 := out24 x
      have v1 := out16 x
      have v2' := out8 x
      have v3 := (ib_toUInt8 x).symm
      have HWb : Hid (wordBytes x = [(x >>> 24).toUInt8, (x >>> 16).toUInt8, (x >>> 8).toUInt8, x.toUInt8]) := rfl
      generalize (x >>> (24 : UInt32)).toUInt8 = b0 at v0 HWb
      generalize (x >>> (16 : UInt32)).toUInt8 = b1 at v1 HWb
      generalize (x >>> (8 : UInt32)).toUInt8 = b2 at v2' HWb
      generalize x.toUInt8 = b3 at v3 HWb
      have hln : (outTo s3.st k).length + 4 ≤ 1073741824 := by rw [length_outTo _ _ (by rw [(unhide Hok).1]; exact hk)]; omega
      have Hln := hide hln
      clear hln
      go_wp2_with (at_builtin; refine wpList_append_bytes rfl _ _ rfl w.heap.size _ _ (outTo s3.st k) [b0, b1, b2, b3] rfl ((unhide hO1).alloc _) rfl (bytes_new wr [b0, b1, b2, b3] 5 (by simp)) (by simp; omega) (unhide Hln) ?_; intro v' w' hO2 hg2)
      go_roundw
      case rel =>
        have hO3 : OwnB w' w.heap.size v' (outTo s3.st (k + 1)) := by rw [unhide HBk, unhide HWb]; exact hO2
        have hB3 : Below w.heap.size w w' := Fresh.grown ((unhide hO1).alloc _) hg2 (hB.alloc hS _) (by simp; omega)
        have hS3 : w.heap.size ≤ w'.heap.size := by have := hg2.size; simp at this; omega
        first
          | exact ⟨k + 1, by omega, by go_num, hO3, hB3, hS3⟩
          | ((repeat apply Exists.intro); exact ⟨⟨k + 1, by omega, by go_num, hO3, hB3, hS3⟩, rfl⟩)
      case measure => simp [intOf]; omega
    · obtain rfl : k = 8 := by omega
      clear hlt hk
      have hO1 := hide hO
      clear hO
      go_wp2
      go_ret
      refine ⟨_, rfl, ?_, hB⟩
      have e : digest s = outTo s3.st 8 := by
        unfold digest outTo; rw [unhide Hs3, List.take_of_length_le (by rw [(unhide Hok).1]; exact Nat.le_refl _)]
      rw [e]; exact unhide hO1
end Go.Proofs.YtmhlafhbdpeglaaDoor.Sha
namespace Go.Proofs.YtmhlafhbdpeglaaDoor.Sha
open Go.RowKit
/-- The sum of a message. -/
def shaOf (l : List UInt8) : List UInt8 := digest (feed hs0 l)
/-- The two tables lie where the program lays them. -/
def Ready (w : World) : Prop := StartAt w ∧ TabAt w
theorem Ready.lt {w : World} (h : Ready w) : 1 < w.heap.size := by
  obtain ⟨tk, fr, hf⟩ := h.2
  exact (Array.getElem?_eq_some_iff.1 hf).1
theorem Ready.below {a b : World} (h : Ready a) (hb : Below a.heap.size a b) : Ready b := by
  refine ⟨?_, h.2.below hb⟩
  obtain ⟨tk, fr, hf⟩ := h.1
  exact ⟨tk, fr, by rw [hb.block 0 (Array.getElem?_eq_some_iff.1 hf).1]; exact hf⟩
theorem Ready.grown {a b : World} {g : Nat} (h : Ready a) (hb : a.grownBy b (some g)) (hg : 1 < g) : Ready b := by
  refine ⟨?_, tab_grown h.2 hb (by omega)⟩
  obtain ⟨tk, fr, hf⟩ := h.1
  exact ⟨tk, fr, by rw [hb.block 0 (Array.getElem?_eq_some_iff.1 hf).1 (by simp; omega)]; exact hf⟩
theorem BytesAt.old {w : World} {x : Value} {l : List UInt8} (h : BytesAt w x l) (hl : l ≠ []) (k : Nat) (hk : x.ownBlock = some k) : k < w.heap.size := by
  obtain ⟨sp, c, rfl, _, _, h3⟩ := h
  obtain ⟨b, o, rfl, hr⟩ := h3 hl
  simp [Value.ownBlock] at hk
  subst hk
  obtain ⟨u, r, rfl⟩ : ∃ u r, l = u :: r := by cases l with | nil => exact absurd rfl hl | cons u r => exact ⟨u, r, rfl⟩
  exact World.block_lt_of_cell? w _ (hr 0 (bv u) rfl)
theorem OwnB.mono {w : World} {B B' : Nat} {v : Value} {l : List UInt8} (h : OwnB w B v l) (hB : B' ≤ B) : OwnB w B' v l := by
  obtain ⟨h1, h2⟩ := h
  refine ⟨h1, ?_⟩
  rcases h2 with h2 | ⟨g, cap, cur, hv, hb, r⟩
  · exact Or.inl h2
  · exact Or.inr ⟨g, cap, cur, hv, by omega, r⟩
end Go.Proofs.YtmhlafhbdpeglaaDoor.Sha
