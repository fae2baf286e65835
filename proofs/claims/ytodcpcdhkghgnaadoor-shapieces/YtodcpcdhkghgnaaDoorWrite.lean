/-
  The walk of Write: an object that is told bytes holds what it held and these; nothing else that was there has turned.
-/
import Derived.Test.YtodcpcdhkghgnaaDoorHash
import Derived.Deep.DrawnRows
namespace Go.Proofs.YtodcpcdhkghgnaaDoor
open Go.RowKit
attribute [local go_sem ↓] Go.wp_at_zero Go.wp_at_succ
attribute [local go_sem ↓] wp_load39 wp_load44 wp_store39
attribute [local go_sem] readRow_drew ptrOk_pointer ptrBlock_pointer ptrOff_pointer aggCells_agg World.there_drew
set_option maxRecDepth 100000 in
set_option maxHeartbeats 1000000 in
theorem write_any (g : Nat) (hg1 : 1 < g) (s : HS) (hs : s.ok) (w : World) (hg : HashAt w g s) (hK : TabAt w) (sp : Option Addr) (bs : List UInt8) (cap : Nat) (hcap : bs.length ≤ cap) (hsrc : SrcAt w g sp bs) (htold : s.told + bs.length ≤ 4611686018427387904) :
    Calls Tryd.prog 15 #[.pointer (some ⟨g, 0, none⟩), .slice sp bs.length cap] w fun e w' => e = .returned (.tuple #[]) ∧ HashAt w' g (feed s bs) ∧ w.grownBy w' (some g) := by
  have Hg := hide hg
  have HK := hide hK
  have Hs := hide hsrc
  clear hg hK hsrc
  go_enter Tryd.func15, Tryd.ntmps15
  go_wp2
  go_loopw [1] (fun b wr => ∃ (done rest : List UInt8) (sp : Option Addr) (cap : Nat), Hid (done ++ rest = bs) ∧ b = .slice sp rest.length cap ∧ rest.length ≤ cap ∧ SrcAt wr g sp rest ∧ HashAt wr g (feed s done) ∧ w.grownBy wr (some g)) (fun b _ => lenVal b)
  case atStart => exact ⟨[], bs, sp, cap, rfl, rfl, hcap, unhide Hs, unhide Hg, World.grownBy.refl _ _⟩
  case round =>
    obtain ⟨done, rest, sp, cap, hd, rfl, hcap, hS, hH, hG⟩ := hrel
    clear Hg Hs
    have hok := feed_ok s done hs
    have htd := feed_told s done
    have hlen : done.length + rest.length = bs.length := by rw [← unhide hd]; simp
    generalize hs1 : feed s done = s1 at *
    by_cases he : rest = []
    · subst he
      have HG := hide hG
      have HH := hide hH
      clear hG hH hS
      go_wp2
      go_end0
      refine ⟨rfl, ?_, unhide HG⟩
      rw [← unhide hd, List.append_nil, hs1]; exact unhide HH
    · obtain ⟨ba, bo, rfl, hne, hr⟩ := hS he
      have hpos : 0 < rest.length := List.length_pos_iff.2 he
      generalize ho : s1.told % 64 = o
      have ho64 : o < 64 := by omega
      have cT : wr.cell? ⟨g, 72, none⟩ = some (.int .i64 (s1.told : Int)) := by rw [cell_of_row _ _ 72 _ 47 (0, 0) hH]; exact hcells_get_told s1 hok
      generalize hn : Nat.min rest.length (64 - o) = n
      have hn1 : n ≤ rest.length := by rw [← hn]; exact Nat.min_le_left _ _
      have hn2 : n ≤ 64 - o := by rw [← hn]; exact Nat.min_le_right _ _
      have hnp : 0 < n := by rw [← hn]; exact Nat.lt_min.2 ⟨hpos, by omega⟩
      have hcp := copy_round wr.drew g o s1 hok hH ho64 rest n hn.symm cap ba bo (by simpa using hr) 3
      have hW2 : HashAt (wr.drew.setRow g (hcells ⟨s1.st, s1.last.take o ++ rest.take n ++ s1.last.drop (o + n), s1.told⟩).toArray) g ⟨s1.st, s1.last.take o ++ rest.take n ++ s1.last.drop (o + n), s1.told⟩ := setRow_heap _ _ _ _ _ _ hH
      have hG2 : wr.grownBy (wr.drew.setRow g (hcells ⟨s1.st, s1.last.take o ++ rest.take n ++ s1.last.drop (o + n), s1.told⟩).toArray) (some g) := grown_setRow (World.grownBy.refl wr (some g)).drew g _ rfl
      generalize wr.drew.setRow g (hcells ⟨s1.st, s1.last.take o ++ rest.take n ++ s1.last.drop (o + n), s1.told⟩).toArray = W2 at hcp hW2 hG2
      generalize hl2 : s1.last.take o ++ rest.take n ++ s1.last.drop (o + n) = L at hW2
      have hLl : L.length = 64 := by rw [← hl2]; simp [hok.2]; omega
      have hok2 : HS.ok ⟨s1.st, L, s1.told⟩ := ⟨hok.1, hLl⟩
      have cT2 : W2.cell? ⟨g, 72, none⟩ = some (.int .i64 (s1.told : Int)) := by rw [cell_of_row _ _ 72 _ 47 (0, 0) hW2]; exact hcells_get_told _ hok2
      have fT2 : W2.frozen? ⟨g, 72, none⟩ = false := frozen_of_row _ _ _ _ 47 hW2
      have hW3 : HashAt (W2.setCell ⟨g, 72, none⟩ (.int .i64 ((s1.told : Int) + (n : Int)))) g ⟨s1.st, L, s1.told + n⟩ := by
        have := hW2.set_told hok2 (s1.told + n)
        rwa [Int.natCast_add] at this
      have hG3 : wr.grownBy (W2.setCell ⟨g, 72, none⟩ (.int .i64 ((s1.told : Int) + (n : Int)))) (some g) := grown_setCell hG2 _ _ rfl
      generalize hE3 : W2.setCell ⟨g, 72, none⟩ (.int .i64 ((s1.told : Int) + (n : Int))) = W3 at hW3 hG3
      have cT3 : W3.cell? ⟨g, 72, none⟩ = some (.int .i64 ((s1.told : Int) + (n : Int))) := by
        rw [cell_of_row _ _ 72 _ 47 (0, 0) hW3, hcells_get_told _ (show HS.ok ⟨s1.st, L, s1.told + n⟩ from ⟨hok.1, hLl⟩), Int.natCast_add]
      have hsr := fun w => slice_rest w (some ⟨ba, bo, none⟩) rest.length cap n hn1
      generalize hsp : (if cap = n then (some ⟨ba, bo, none⟩ : Option Addr) else (some ⟨ba, bo, none⟩ : Option Addr).map (·.add n)) = sp2 at hsr
      have hto : ((s1.told : Int)).tmod 64 = (o : Int) := by rw [Int.tmod_eq_emod_of_nonneg (by omega)]; omega
      have hsl : ∀ w, (Instr.sliceAt 44 (.pointer (some ⟨g, 8, none⟩)) (some (.int .i64 (o : Int))) none none).run Tryd.prog w = .ok (.slice (some ⟨g, 8 + o, none⟩) (64 - o) (64 - o)) w := fun w => slice_last w g o ho64
      have htm : (0 : Int) ≤ (s1.told : Int) := by omega
      have htn : (s1.told : Int) ≤ 4611686018427387904 := by omega
      have hn64 : (n : Int) ≤ 64 := by omega
      have hn0 : (0 : Int) ≤ (n : Int) := by omega
      have hlt3 : g < W3.heap.size := (Array.getElem?_eq_some_iff.1 hW3).1
      have Hsrc : Hid (SrcAt W3 g sp2 (rest.drop n)) := (src_rest hr hne hcap hsp).grown hG3
      have Hfs := hide hs1
      have HL := hide hl2
      have HD := hide hd
      have HW3 := hide hW3
      have HG3 := hide (hG.trans hG3)
      have HO := hide hok
      have HT := hide htd
      have Hle := hide hlen
      clear hs1 hl2 hd hH hG hr hS hok htd hlen hW3 hG3 hW2 hG2 hok2 hsp
      by_cases hfull : 64 - o ≤ rest.length
      · have hnn : n = 64 - o := by rw [← hn]; exact Nat.min_eq_right hfull
        have hz : ((s1.told : Int) + (n : Int)).tmod 64 = 0 := by rw [Int.tmod_eq_emod_of_nonneg (by omega)]; omega
        have Hnn := hide hnn
        clear hnn
        go_wp2
        go_region_held3 (fun w' => w'.cell? ⟨g, 72, none⟩ = some (.int .i64 (s1.told : Int))) (go_keep) (fail)
        have ok3 : HS.ok ⟨s1.st, L, s1.told + n⟩ := ⟨(unhide HO).1, hLl⟩
        have ht0 : W3.there g 0 8 := (unhide HW3).there ok3 0 8 (by omega)
        have ht8 : W3.there g 8 64 := (unhide HW3).there ok3 8 64 (by omega)
        have r1 : readRow W3 g 0 8 = _ := (unhide HW3).read_st ok3
        have r2 : readRow W3 g 8 64 = _ := (unhide HW3).read_last ok3
        generalize hss : (List.map wv (HS.st ⟨s1.st, L, s1.told + n⟩)).toArray = ss at r1
        generalize hcs : (List.map bv (HS.last ⟨s1.st, L, s1.told + n⟩)).toArray = cs at r2
        have Hss := hide hss
        have Hcs := hide hcs
        have HTab : Hid (TabAt W3) := tab_grown (unhide HK) (unhide HG3) (by omega)
        clear hss hcs ok3
        go_wp2
        go_region_with ((go_at_call 22; go_must (refine (mix_of s1.st (unhide HO).1 L hLl ss cs (unhide Hss) (unhide Hcs) W3.drew (unhide HTab) (Nat.lt_trans hg1 hlt3)).mono ?_; rintro e w4 ⟨mm, rfl, Hmm, haok, hb4⟩; have ht4 := there_below ((World.there_drew _ _ _ _).2 ht0) hb4 hlt3)))
        all_goals
          have hB := grown_setCells (grown_below (World.grownBy.refl W3 (some g)).drew hb4) mm.toList 0
          have hH5 : HashAt (w4.setCells g 0 mm.toList) g (feed s (done ++ rest.take n)) := by
            rw [feed_append, unhide Hfs, feed_fill s1 (rest.take n) (unhide HO).2 (by rw [List.length_take]; have := unhide Hnn; omega), ← unhide Hmm]
            have h4 : HashAt w4 g ⟨s1.st, L, s1.told + n⟩ := by
              show w4.heap[g]? = _
              rw [hb4.block g hlt3]; exact unhide HW3
            have hL2 : s1.last.take (s1.told % 64) ++ rest.take n = L := by
              rw [← unhide HL, ho, List.drop_of_length_le (by rw [(unhide HO).2]; have := unhide Hnn; omega), List.append_nil]
            have hlt : (rest.take n).length = n := by rw [List.length_take]; omega
            rw [hL2, hlt]
            have := h4.set_st ⟨(unhide HO).1, hLl⟩ (mixed s1.st L) (length_mixed _ _ (unhide HO).1)
            exact this
          have hD5 : (done ++ rest.take n) ++ rest.drop n = bs := by rw [List.append_assoc, List.take_append_drop]; exact unhide HD
          have HB := hide hB
          have HH5 := hide hH5
          have HD5 := hide hD5
          have Hb4 := hide hb4
          clear hB hH5 hD5 hb4
          go_wp2
          go_roundw
          case rel =>
            have hr : ∃ (done' rest' : List UInt8) (sp' : Option Addr) (cap' : Nat), Hid (done' ++ rest' = bs) ∧ Value.slice sp2 (rest.length - n) (cap - n) = .slice sp' rest'.length cap' ∧ rest'.length ≤ cap' ∧ SrcAt (w4.setCells g 0 mm.toList) g sp' rest' ∧ HashAt (w4.setCells g 0 mm.toList) g (feed s done') ∧ w.grownBy (w4.setCells g 0 mm.toList) (some g) :=
              ⟨done ++ rest.take n, rest.drop n, sp2, cap - n, HD5, by rw [List.length_drop], by rw [List.length_drop]; omega, (unhide Hsrc).grown (unhide HB), unhide HH5, (unhide HG3).trans (unhide HB)⟩
            first | exact hr | ((repeat apply Exists.intro); exact ⟨hr, rfl⟩)
          case measure => simp [lenVal]; omega
      · have hnn : n = rest.length := by rw [← hn]; exact Nat.min_eq_left (by omega)
        have hz : ((s1.told : Int) + (n : Int)).tmod 64 = (o : Int) + (n : Int) := by rw [Int.tmod_eq_emod_of_nonneg (by omega)]; omega
        have hnz : (((o : Int) + (n : Int)) == 0) = false := beq_eq_false_iff_ne.2 (by omega)
        have Hnn := hide hnn
        clear hnn
        go_wp2
        go_region_held3 (fun w' => w'.cell? ⟨g, 72, none⟩ = some (.int .i64 (s1.told : Int))) (go_keep) (fail)
        go_wp2
        go_roundw
        case rel =>
          have hH5 : HashAt W3 g (feed s (done ++ rest.take n)) := by
            have hlt : (rest.take n).length = n := by rw [List.length_take]; omega
            rw [feed_append, unhide Hfs, feed_part s1 (rest.take n) (unhide HO).2 (by rw [hlt]; have := unhide Hnn; omega), hlt, ho, unhide HL]
            exact unhide HW3
          have hD5 : (done ++ rest.take n) ++ rest.drop n = bs := by rw [List.append_assoc, List.take_append_drop]; exact unhide HD
          have hr : ∃ (done' rest' : List UInt8) (sp' : Option Addr) (cap' : Nat), Hid (done' ++ rest' = bs) ∧ Value.slice sp2 (rest.length - n) (cap - n) = .slice sp' rest'.length cap' ∧ rest'.length ≤ cap' ∧ SrcAt W3 g sp' rest' ∧ HashAt W3 g (feed s done') ∧ w.grownBy W3 (some g) :=
            ⟨done ++ rest.take n, rest.drop n, sp2, cap - n, hD5, by rw [List.length_drop], by rw [List.length_drop]; omega, unhide Hsrc, hH5, unhide HG3⟩
          first | exact hr | ((repeat apply Exists.intro); exact ⟨hr, rfl⟩)
        case measure => simp [lenVal]; omega
end Go.Proofs.YtodcpcdhkghgnaaDoor
