/-
  The walk of masked: the sum of a key, each byte of it xored with a mask, and a message; in new memory.
-/
import Derived.Test.YtodcpcdhkghgnaaDoorSplits
namespace Go.Proofs.YtodcpcdhkghgnaaDoor
open Go.RowKit
theorem ib_xor (x y : UInt8) : bits .xor .u8 (ib x) (ib y) = ib (x ^^^ y) := by
  unfold ib; rw [u8_xor_nat _ _ x.toNat_lt y.toNat_lt, UInt8.toNat_xor]
/-- The key while its bytes are xored with the mask. -/
def maskTo (key : List UInt8) (m : UInt8) (k : Nat) : List UInt8 := (key.map (· ^^^ m)).take k ++ key.drop k
theorem length_maskTo (key : List UInt8) (m : UInt8) (k : Nat) (h : k ≤ key.length) : (maskTo key m k).length = key.length := by simp [maskTo]; omega
theorem maskTo_get (key : List UInt8) (m : UInt8) (k : Nat) (h : k < key.length) : (((maskTo key m k).map bv).toArray)[k]? = some (.int .u8 (ib (key.getD k 0))) := by
  rw [List.getElem?_toArray, List.getElem?_map, maskTo, List.getElem?_append_right (by simp; omega)]
  simp [List.getD_eq_getElem?_getD, bv, Nat.min_eq_left (Nat.le_of_lt h), h]
theorem maskTo_set (key : List UInt8) (m : UInt8) (k : Nat) (h : k < key.length) : ((maskTo key m k).map bv).toArray.setIfInBounds k (.int .u8 (ib (key.getD k 0 ^^^ m))) = ((maskTo key m (k + 1)).map bv).toArray := by
  rw [List.setIfInBounds_toArray]
  congr 1
  have e : Value.int .u8 (ib (key.getD k 0 ^^^ m)) = bv (key.getD k 0 ^^^ m) := rfl
  rw [e, ← List.map_set]
  congr 1
  unfold maskTo
  have hd : key.drop k = key[k] :: key.drop (k + 1) := List.drop_eq_getElem_cons h
  have hz : k - (List.take k (key.map (· ^^^ m))).length = 0 := by simp; omega
  rw [List.set_append_right _ _ (by simp; omega), hz, List.take_succ_eq_append_getElem (by simpa using h), hd, List.set_cons_zero]
  simp [List.getD_eq_getElem?_getD, h]
theorem maskTo_full (key : List UInt8) (m : UInt8) : maskTo key m key.length = key.map (· ^^^ m) := by
  unfold maskTo
  rw [List.take_of_length_le (by simp), List.drop_length, List.append_nil]
/-- The sum of a key, each byte of it xored with the mask, and a message. -/
def maskSum (key : List UInt8) (m : UInt8) (l : List UInt8) : List UInt8 := shaOf (key.map (· ^^^ m) ++ l)
theorem bytes_row {w : World} {b : Nat} {l : List UInt8} {t : TypeId} {fr : Nat × Nat} (h : w.heap[b]? = some (.cells (l.map bv).toArray t fr)) (n : Nat) (hn : l.length = n) : BytesAt w (.slice (some ⟨b, 0, none⟩) n n) l :=
  ⟨_, _, by rw [hn], by omega, fun h => (by cases h), fun _ => ⟨b, 0, rfl, fun j v hv => by
    rw [cell_of_row _ _ _ _ t fr h, Nat.zero_add]; simpa using hv⟩⟩
set_option maxRecDepth 100000 in
set_option maxHeartbeats 2000000 in
theorem masked_any (w : World) (hr : Ready w) (key : List UInt8) (hk : key.length = 64) (m : UInt8) (x : Value) (l : List UInt8) (hx : BytesAt w x l) (hl : l.length ≤ 1073741824) (cs : Array Value) (hcs : (key.map bv).toArray = cs) :
    Calls Tryd.prog 21 #[.agg cs, .int .u8 (ib m), x] w fun e w' => ∃ v, e = .returned v ∧ OwnB w' w.heap.size v (maskSum key m l) ∧ Below w.heap.size w w' := by
  have Hr := hide hr
  have Hx := hide hx
  have Hcs := hide hcs
  clear hr hx hcs
  go_enter Tryd.func21, Tryd.ntmps21
  go_wp2
  go_loopw [9] (fun i wr => ∃ k : Nat, k ≤ 64 ∧ i = .int .i64 k ∧ wr.heap[w.heap.size]? = some (.cells ((maskTo key m k).map bv).toArray 44 (0, 0)) ∧ Below w.heap.size w wr ∧ wr.heap.size = w.heap.size + 1) (fun i _ => 64 - (intOf i).toNat)
  case atStart =>
    refine ⟨0, by omega, rfl, ?_, (Below.refl _ _).alloc (Nat.le_refl _) _, by simp⟩
    rw [heap_alloc_new, ← unhide Hcs]
    simp [maskTo]
  case round =>
    obtain ⟨k, hk64, rfl, hh, hB, hS⟩ := hrel
    by_cases hlt : k < 64
    · have hlk : k < key.length := by omega
      have c1 : wr.cell? ⟨w.heap.size, k, none⟩ = some (.int .u8 (ib (key.getD k 0))) := by rw [cell_of_row _ _ k _ 44 (0, 0) hh]; exact maskTo_get key m k hlk
      have f1 : wr.frozen? ⟨w.heap.size, k, none⟩ = false := frozen_of_row _ _ _ _ 44 hh
      have hst := heap_setCell_same wr w.heap.size k _ 44 (.int .u8 (ib (key.getD k 0 ^^^ m))) hh
      rw [maskTo_set key m k hlk] at hst
      have hB2 := hB.setCell (p := ⟨w.heap.size, k, none⟩) (Nat.le_refl _) (.int .u8 (ib (key.getD k 0 ^^^ m)))
      have hxor := ib_xor (key.getD k 0) m
      generalize key.getD k 0 = q at c1 hst hB2 hxor
      have HSt := hide hst
      have HB2 := hide hB2
      have HS := hide hS
      have q1 : (k : Int) < 64 := by omega
      clear hst hB2 hh hB hS
      go_wp2
      go_roundw
      case rel =>
        first
          | exact ⟨k + 1, by omega, by go_num, unhide HSt, unhide HB2, by rw [World.size_setCell]; exact unhide HS⟩
          | ((repeat apply Exists.intro); exact ⟨⟨k + 1, by omega, by go_num, unhide HSt, unhide HB2, by rw [World.size_setCell]; exact unhide HS⟩, rfl⟩)
      case measure => simp [intOf]; omega
    · obtain rfl : k = 64 := by omega
      have e : maskTo key m 64 = key.map (· ^^^ m) := by rw [← hk]; exact maskTo_full key m
      rw [e] at hh
      have hkb := bytes_row hh 64 (by rw [List.length_map]; exact hk)
      generalize hmk : key.map (· ^^^ m) = mk at hkb
      have hmk64 : mk.length = 64 := by rw [← hmk, List.length_map]; exact hk
      have HI := hide (Inv.start (unhide Hr) (unhide Hx) hB)
      have HK := hide hkb
      have HR := hide ((unhide Hr).below hB)
      have HS := hide hS
      have Hmk := hide hmk
      clear hmk hkb hB hh e hlt hk64
      go_wp2_with fail
      refine (new_any wr (unhide HR).1).mono ?_
      rintro e w2 ⟨rfl, hw2⟩
      have hb2 : Below wr.heap.size wr w2 := by rw [hw2]; exact (Below.refl _ _).alloc (Nat.le_refl _) _
      rw [← hw2] at HI
      have HK2 := hide ((unhide HK).below hb2)
      have hgN : w.heap.size < wr.heap.size := by have := unhide HS; omega
      generalize wr.heap.size = g at HI hgN ⊢
      clear hw2 hb2 HK HR HS
      go_wp2_with fail
      refine (write_val g (unhide HI).g1 hs0 hs0_ok w2 (unhide HI).h (unhide HI).r.2 _ mk (unhide HK2) (fun _ e => by simp [Value.ownBlock] at e; omega) (by show 0 + _ ≤ _; omega)).mono ?_
      rintro e w3 ⟨rfl, hh3, hg3⟩
      have I3 := hide ((unhide HI).grown hg3 hh3)
      clear hh3 hg3 HI HK2
      go_wp2_with fail
      have ok3 := feed_ok hs0 mk hs0_ok
      have t3 := feed_told hs0 mk
      have z3 : hs0.told = 0 := rfl
      refine (write_val g (unhide I3).g1 (feed hs0 mk) ok3 w3 (unhide I3).h (unhide I3).r.2 x l (unhide I3).b (unhide I3).xg (by omega)).mono ?_
      rintro e w4 ⟨rfl, hh4, hg4⟩
      rw [← feed_append] at hh4
      have I4 := hide ((unhide I3).grown hg4 hh4)
      clear hh4 hg4 I3
      go_wp2_with fail
      have ok4 := feed_ok hs0 (mk ++ l) hs0_ok
      have t4 := feed_told hs0 (mk ++ l)
      rw [List.length_append] at t4
      refine (hsum_any g (feed hs0 (mk ++ l)) ok4 w4 (unhide I4).r.lt (unhide I4).h (unhide I4).r.2 (by omega)).mono ?_
      rintro e w5 ⟨v, rfl, hO, hb5⟩
      have HO := hide (hO.mono (unhide I4).bel.size)
      have HB5 := hide ((unhide I4).below hb5).bel
      clear hO hb5
      go_wp2_with fail
      go_ret
      refine ⟨v, rfl, ?_, unhide HB5⟩
      unfold maskSum; rw [unhide Hmk]; exact unhide HO
end Go.Proofs.YtodcpcdhkghgnaaDoor
