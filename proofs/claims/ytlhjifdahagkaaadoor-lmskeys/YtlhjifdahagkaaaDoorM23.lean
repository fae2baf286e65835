/-
  The walk of Write: an object that is told bytes holds what it held and these; nothing else that was there has turned.
-/
import Derived.Test.YtlhjifdahagkaaaDoorM22
import Derived.Deep.DrawnRows
import Derived.Laws.AppendOwnNone
import Derived.Test.YtlhjifdahagkaaaDoorM01
import Derived.Deep.MidRow
import Derived.Deep.WholeRow
import Derived.Laws.CopyOwn
import Derived.WalkSpells
import Derived.WalkLawsBesides
import Derived.BigQuiet
namespace Go.Proofs.YtlhjifdahagkaaaDoor.Sha
open Go.RowKit
attribute [local go_sem ↓] Go.wp_at_zero Go.wp_at_succ
attribute [local go_sem ↓] wp_load39 wp_load44 wp_store39
attribute [local go_sem] readRow_drew ptrOk_pointer ptrBlock_pointer ptrOff_pointer aggCells_agg World.there_drew
set_option maxRecDepth 100000 in
set_option maxHeartbeats 1000000 in
theorem write_any (g : Nat) (hg1 : 2 < g) (s : HS) (hs : s.ok) (w : World) (hg : HashAt w g s) (hK : TabAt w) (sp : Option Addr) (bs : List UInt8) (cap : Nat) (hcap : bs.length ≤ cap) (hsrc : SrcAt w g sp bs) (htold : s.told + bs.length ≤ 4611686018427387904) :
    Calls Tryd.prog 70 #[.pointer (some ⟨g, 0, none⟩), .slice sp bs.length cap] w fun e w' => e = .returned (.tuple #[]) ∧ HashAt w' g (feed s bs) ∧ w.grownBy w' (some g) := by
  have Hg := hide hg
  have HK := hide hK
  have Hs := hide hsrc
  clear hg hK hsrc
  go_enter Tryd.func70, Tryd.ntmps70
  go_wp2
  go_loopw [1] (fun b wr => ∃ (done rest : List UInt8) (sp : Option Addr) (cap : Nat), Hid (done ++ rest = bs) ∧ b = .slice sp rest.length cap ∧ rest.length ≤ cap ∧ SrcAt wr g sp rest ∧ HashAt wr g (feed s done) ∧ w.grownBy wr (some g)) (fun b _ => lenVal b)
  case atStart => exact ⟨[], bs, sp, cap, rfl, rfl, hcap, unhide Hs, unhide Hg, World.grownBy.refl _ _⟩
  case round =>
    obtain ⟨done, rest, sp, cap, hd, rfl, hcap, hS, hH, hG⟩ := hrel
    clear Hg Hs
    have hok := feed_ok s done hs
    have htd := feed_told s done
    have hlen : done.length + rest.length = bs.length := by rw [← unhide hd]; simp
    generalize hs1 : feed s done = s1 at *
    by_cases he : rest = []
    · subst he
      have HG := hide hG
      have HH := hide hH
      clear hG hH hS
      go_wp2
      go_end0
      refine ⟨rfl, ?_, unhide HG⟩
      rw [← unhide hd, List.append_nil, hs1]; exact unhide HH
    · obtain ⟨ba, bo, rfl, hne, hr⟩ := hS he
      have hpos : 0 < rest.length := List.length_pos_iff.2 he
      generalize ho : s1.told % 64 = o
      have ho64 : o < 64 := by omega
      have cT : wr.cell? ⟨g, 72, none⟩ = some (.int .i64 (s1.told : Int)) := by rw [cell_of_row _ _ 72 _ 127 (0, 0) hH]; exact hcells_get_told s1 hok
      generalize hn : Nat.min rest.length (64 - o) = n
      have hn1 : n ≤ rest.length := by rw [← hn]; exact Nat.min_le_left _ _
      have hn2 : n ≤ 64 - o := by rw [← hn]; exact Nat.min_le_right _ _
      have hnp : 0 < n := by rw [← hn]; exact Nat.lt_min.2 ⟨hpos, by omega⟩
      have hcp := copy_round wr.drew g o s1 hok hH ho64 rest n hn.symm cap ba bo (by simpa using hr) 3
      have hW2 : HashAt (wr.drew.setRow g (hcells ⟨s1.st, s1.last.take o ++ rest.take n ++ s1.last.drop (o + n), s1.told⟩).toArray) g ⟨s1.st, s1.last.take o ++ rest.take n ++ s1.last.drop (o + n), s1.told⟩ := setRow_heap _ _ _ _ _ _ hH
      have hG2 : wr.grownBy (wr.drew.setRow g (hcells ⟨s1.st, s1.last.take o ++ rest.take n ++ s1.last.drop (o + n), s1.told⟩).toArray) (some g) := grown_setRow (World.grownBy.refl wr (some g)).drew g _ rfl
      generalize wr.drew.setRow g (hcells ⟨s1.st, s1.last.take o ++ rest.take n ++ s1.last.drop (o + n), s1.told⟩).toArray = W2 at hcp hW2 hG2
      generalize hl2 : s1.last.take o ++ rest.take n ++ s1.last.drop (o + n) = L at hW2
      have hLl : L.length = 64 := by rw [← hl2]; simp [hok.2]; omega
      have hok2 : HS.ok ⟨s1.st, L, s1.told⟩ := ⟨hok.1, hLl⟩
      have cT2 : W2.cell? ⟨g, 72, none⟩ = some (.int .i64 (s1.told : Int)) := by rw [cell_of_row _ _ 72 _ 127 (0, 0) hW2]; exact hcells_get_told _ hok2
      have fT2 : W2.frozen? ⟨g, 72, none⟩ = false := frozen_of_row _ _ _ _ 127 hW2
      have hW3 : HashAt (W2.setCell ⟨g, 72, none⟩ (.int .i64 ((s1.told : Int) + (n : Int)))) g ⟨s1.st, L, s1.told + n⟩ := by
        have := hW2.set_told hok2 (s1.told + n)
        rwa [Int.natCast_add] at this
      have hG3 : wr.grownBy (W2.setCell ⟨g, 72, none⟩ (.int .i64 ((s1.told : Int) + (n : Int)))) (some g) := grown_setCell hG2 _ _ rfl
      generalize hE3 : W2.setCell ⟨g, 72, none⟩ (.int .i64 ((s1.told : Int) + (n : Int))) = W3 at hW3 hG3
      have cT3 : W3.cell? ⟨g, 72, none⟩ = some (.int .i64 ((s1.told : Int) + (n : Int))) := by
        rw [cell_of_row _ _ 72 _ 127 (0, 0) hW3, hcells_get_told _ (show HS.ok ⟨s1.st, L, s1.told + n⟩ from ⟨hok.1, hLl⟩), Int.natCast_add]
      have hsr := fun w => slice_rest w (some ⟨ba, bo, none⟩) rest.length cap n hn1
      generalize hsp : (if cap = n then (some ⟨ba, bo, none⟩ : Option Addr) else (some ⟨ba, bo, none⟩ : Option Addr).map (·.add n)) = sp2 at hsr
      have hto : ((s1.told : Int)).tmod 64 = (o : Int) := by rw [Int.tmod_eq_emod_of_nonneg (by omega)]; omega
      have hsl : ∀ w, (Instr.sliceAt 125 (.pointer (some ⟨g, 8, none⟩)) (some (.int .i64 (o : Int))) none none).run Tryd.prog w = .ok (.slice (some ⟨g, 8 + o, none⟩) (64 - o) (64 - o)) w := fun w => slice_last w g o ho64
      have htm : (0 : Int) ≤ (s1.told : Int) := by omega
      have htn : (s1.told : Int) ≤ 4611686018427387904 := by omega
      have hn64 : (n : Int) ≤ 64 := by omega
      have hn0 : (0 : Int) ≤ (n : Int) := by omega
      have hlt3 : g < W3.heap.size := (Array.getElem?_eq_some_iff.1 hW3).1
      have Hsrc : Hid (SrcAt W3 g sp2 (rest.drop n)) := (src_rest hr hne hcap hsp).grown hG3
      have Hfs := hide hs1
      have HL := hide hl2
      have HD := hide hd
      have HW3 := hide hW3
      have HG3 := hide (hG.trans hG3)
      have HO := hide hok
      have HT := hide htd
      have Hle := hide hlen
      clear hs1 hl2 hd hH hG hr hS hok htd hlen hW3 hG3 hW2 hG2 hok2 hsp
      by_cases hfull : 64 - o ≤ rest.length
      · have hnn : n = 64 - o := by rw [← hn]; exact Nat.min_eq_right hfull
        have hz : ((s1.told : Int) + (n : Int)).tmod 64 = 0 := by rw [Int.tmod_eq_emod_of_nonneg (by omega)]; omega
        have Hnn := hide hnn
        clear hnn
        go_wp2
        go_region_held3 (fun w' => w'.cell? ⟨g, 72, none⟩ = some (.int .i64 (s1.told : Int))) (go_keep) (fail)
        have ok3 : HS.ok ⟨s1.st, L, s1.told + n⟩ := ⟨(unhide HO).1, hLl⟩
        have ht0 : W3.there g 0 8 := (unhide HW3).there ok3 0 8 (by omega)
        have ht8 : W3.there g 8 64 := (unhide HW3).there ok3 8 64 (by omega)
        have r1 : readRow W3 g 0 8 = _ := (unhide HW3).read_st ok3
        have r2 : readRow W3 g 8 64 = _ := (unhide HW3).read_last ok3
        generalize hss : (List.map wv (HS.st ⟨s1.st, L, s1.told + n⟩)).toArray = ss at r1
        generalize hcs : (List.map bv (HS.last ⟨s1.st, L, s1.told + n⟩)).toArray = cs at r2
        have Hss := hide hss
        have Hcs := hide hcs
        have HTab : Hid (TabAt W3) := tab_grown (unhide HK) (unhide HG3) (by omega)
        clear hss hcs ok3
        go_wp2
        go_region_with ((go_at_call 83; go_must (refine (mix_of s1.st (unhide HO).1 L hLl ss cs (unhide Hss) (unhide Hcs) W3.drew (unhide HTab) (Nat.lt_trans hg1 hlt3)).mono ?_; rintro e w4 ⟨mm, rfl, Hmm, haok, hb4⟩; have ht4 := there_below ((World.there_drew _ _ _ _).2 ht0) hb4 hlt3)))
        all_goals
          have hB := grown_setCells (grown_below (World.grownBy.refl W3 (some g)).drew hb4) mm.toList 0
          have hH5 : HashAt (w4.setCells g 0 mm.toList) g (feed s (done ++ rest.take n)) := by
            rw [feed_append, unhide Hfs, feed_fill s1 (rest.take n) (unhide HO).2 (by rw [List.length_take]; have := unhide Hnn; omega), ← unhide Hmm]
            have h4 : HashAt w4 g ⟨s1.st, L, s1.told + n⟩ := by
              show w4.heap[g]? = _
              rw [hb4.block g hlt3]; exact unhide HW3
            have hL2 : s1.last.take (s1.told % 64) ++ rest.take n = L := by
              rw [← unhide HL, ho, List.drop_of_length_le (by rw [(unhide HO).2]; have := unhide Hnn; omega), List.append_nil]
            have hlt : (rest.take n).length = n := by rw [List.length_take]; omega
            rw [hL2, hlt]
            have := h4.set_st ⟨(unhide HO).1, hLl⟩ (mixed s1.st L) (length_mixed _ _ (unhide HO).1)
            exact this
          have hD5 : (done ++ rest.take n) ++ rest.drop n = bs := by rw [List.append_assoc, List.take_append_drop]; exact unhide HD
          have HB := hide hB
          have HH5 := hide hH5
          have HD5 := hide hD5
          have Hb4 := hide hb4
          clear hB hH5 hD5 hb4
          go_wp2
          go_roundw
          case rel =>
            have hr : ∃ (done' rest' : List UInt8) (sp' : Option Addr) (cap' : Nat), Hid (done' ++ rest' = bs) ∧ Value.slice sp2 (rest.length - n) (cap - n) = .slice sp' rest'.length cap' ∧ rest'.length ≤ cap' ∧ SrcAt (w4.setCells g 0 mm.toList) g sp' rest' ∧ HashAt (w4.setCells g 0 mm.toList) g (feed s done') ∧ w.grownBy (w4.setCells g 0 mm.toList) (some g) :=
              ⟨done ++ rest.take n, rest.drop n, sp2, cap - n, HD5, by rw [List.length_drop], by rw [List.length_drop]; omega, (unhide Hsrc).grown (unhide HB), unhide HH5, (unhide HG3).trans (unhide HB)⟩
            first | exact hr | ((repeat apply Exists.intro); exact ⟨hr, rfl⟩)
          case measure => simp [lenVal]; omega
      · have hnn : n = rest.length := by rw [← hn]; exact Nat.min_eq_left (by omega)
        have hz : ((s1.told : Int) + (n : Int)).tmod 64 = (o : Int) + (n : Int) := by rw [Int.tmod_eq_emod_of_nonneg (by omega)]; omega
        have hnz : (((o : Int) + (n : Int)) == 0) = false := beq_eq_false_iff_ne.2 (by omega)
        have Hnn := hide hnn
        clear hnn
        go_wp2
        go_region_held3 (fun w' => w'.cell? ⟨g, 72, none⟩ = some (.int .i64 (s1.told : Int))) (go_keep) (fail)
        go_wp2
        go_roundw
        case rel =>
          have hH5 : HashAt W3 g (feed s (done ++ rest.take n)) := by
            have hlt : (rest.take n).length = n := by rw [List.length_take]; omega
            rw [feed_append, unhide Hfs, feed_part s1 (rest.take n) (unhide HO).2 (by rw [hlt]; have := unhide Hnn; omega), hlt, ho, unhide HL]
            exact unhide HW3
          have hD5 : (done ++ rest.take n) ++ rest.drop n = bs := by rw [List.append_assoc, List.take_append_drop]; exact unhide HD
          have hr : ∃ (done' rest' : List UInt8) (sp' : Option Addr) (cap' : Nat), Hid (done' ++ rest' = bs) ∧ Value.slice sp2 (rest.length - n) (cap - n) = .slice sp' rest'.length cap' ∧ rest'.length ≤ cap' ∧ SrcAt W3 g sp' rest' ∧ HashAt W3 g (feed s done') ∧ w.grownBy W3 (some g) :=
            ⟨done ++ rest.take n, rest.drop n, sp2, cap - n, hD5, by rw [List.length_drop], by rw [List.length_drop]; omega, unhide Hsrc, hH5, unhide HG3⟩
          first | exact hr | ((repeat apply Exists.intro); exact ⟨hr, rfl⟩)
        case measure => simp [lenVal]; omega
end Go.Proofs.YtlhjifdahagkaaaDoor.Sha
/-
  Slices of bytes in memory: that a value holds these bytes; that it lies in new memory; what an append and a make of such slices come to.
-/
namespace Go.Proofs.YtlhjifdahagkaaaDoor.Sha
open Go.RowKit
/-- The value is a slice of bytes that holds l. -/
def BytesAt (w : World) (x : Value) (l : List UInt8) : Prop :=
  ∃ sp c, x = .slice sp l.length c ∧ l.length ≤ c ∧ (sp = none → c = 0) ∧ (l ≠ [] → ∃ b o, sp = some ⟨b, o, none⟩ ∧ w.rangeAt b o (l.map bv))
/-- It lies from block B on. -/
def Fresh (B : Nat) (x : Value) : Prop := ∀ k, x.ownBlock = some k → B ≤ k
/-- A row of bytes of the call's own. -/
def OwnB (w : World) (base : Nat) (v : Value) (l : List UInt8) : Prop := w.ownsRow base 5 1 v l.length (l.map bv)
theorem BytesAt.grown {a b : World} {g : Nat} {x : Value} {l : List UInt8} (h : BytesAt a x l) (hg : a.grownBy b (some g)) (hne : x.ownBlock ≠ some g) : BytesAt b x l := by
  obtain ⟨sp, c, rfl, h1, h2, h3⟩ := h
  refine ⟨sp, c, rfl, h1, h2, fun hl => ?_⟩
  obtain ⟨bb, o, rfl, hr⟩ := h3 hl
  exact ⟨bb, o, rfl, range_grown hr hg (by simpa [Value.ownBlock] using hne)⟩
theorem BytesAt.below {a b : World} {x : Value} {l : List UInt8} (h : BytesAt a x l) (hb : Below a.heap.size a b) : BytesAt b x l := by
  obtain ⟨sp, c, rfl, h1, h2, h3⟩ := h
  refine ⟨sp, c, rfl, h1, h2, fun hl => ?_⟩
  obtain ⟨bb, o, rfl, hr⟩ := h3 hl
  refine ⟨bb, o, rfl, fun j v hv => ?_⟩
  have h0 := hr j v hv
  rw [hb.cell (World.block_lt_of_cell? a _ h0)]; exact h0
theorem BytesAt.drew {a : World} {x : Value} {l : List UInt8} (h : BytesAt a x l) : BytesAt a.drew x l := h.below (Below.refl _ _).drew
theorem OwnB.bytes {w : World} {base : Nat} {v : Value} {l : List UInt8} (h : OwnB w base v l) : BytesAt w v l := by
  obtain ⟨_, h⟩ := h
  rcases h with ⟨rfl, hn⟩ | ⟨g, cap, cur, rfl, hb, hg, hn, hc, hz, ht⟩
  · have : l = [] := List.eq_nil_of_length_eq_zero hn
    subst this
    exact ⟨none, 0, rfl, Nat.le_refl _, fun _ => rfl, fun h => absurd rfl h⟩
  · refine ⟨some ⟨g, 0, none⟩, cap, rfl, hn, fun h => (by cases h), fun _ => ⟨g, 0, rfl, fun j v hv => ?_⟩⟩
    rw [cell_of_row w g _ cur 5 (0, 0) hg, Nat.zero_add]
    rw [← ht, List.getElem?_take] at hv
    split at hv
    · simpa using hv
    · cases hv
theorem OwnB.fresh {w : World} {base : Nat} {v : Value} {l : List UInt8} (h : OwnB w base v l) : Fresh base v := by
  obtain ⟨_, h⟩ := h
  intro k hk
  rcases h with ⟨rfl, hn⟩ | ⟨g, cap, cur, rfl, hb, _⟩
  · cases hk
  · simp [Value.ownBlock] at hk; omega
theorem info5 : ∃ i, Tryd.prog.info? 5 = some i ∧ i.zero = some (.int .u8 0) ∧ i.size = 1 ∧ i.bytes = 1 := by
  have h : (Tryd.prog.info? 5).map (fun i => (i.zero, i.size, i.bytes)) = some (some (.int .u8 0), 1, 1) := by kernel_rfl
  obtain ⟨i, h1, h2⟩ := Option.map_eq_some_iff.1 h
  simp only [Prod.mk.injEq] at h2
  exact ⟨i, h1, h2.1, h2.2.1, h2.2.2⟩
theorem one_bytes (l : List UInt8) : ∀ u ∈ l.map bv, u.oneCell' = true := fun u hu => by obtain ⟨x, _, rfl⟩ := List.mem_map.1 hu; rfl
/-- append to a row of the call's own, of bytes that lie anywhere. -/
theorem wpList_append_bytes {w : World} {ops : Array Oper} {rest : List Oper} {o : Oper} {a : Act} {Q : Exit → Act → World → Prop} (hgd : o.guard = none) (s x : Operand)
    (ho : o.op = .call { callee := .builtin .append, args := #[s, x], argTypes := #[24, 24] }) (base : Nat) (v y : Value) (l m : List UInt8) (hs : a.eval s = v) (hown : OwnB w base v l)
    (hx : a.eval x = y) (hy : BytesAt w y m) (hb : base ≤ w.heap.size) (hlen : l.length + m.length ≤ 1073741824)
    (h : ∀ v' w', OwnB w' base v' (l ++ m) → w.grownBy w' v.ownBlock → wpList Tryd.prog ops Q rest (a.put o.dst v') w') : wpList Tryd.prog ops Q (o :: rest) a w := by
  obtain ⟨i, hi, hz, hsz, hby⟩ := info5
  obtain ⟨sp, c, rfl, hc1, hc2, hc3⟩ := hy
  cases sp with
  | none =>
    have hm : m = [] := by
      rcases List.eq_nil_or_concat m with h | ⟨r, u, rfl⟩
      · exact h
      · obtain ⟨b, o, e, _⟩ := hc3 (by simp); cases e
    subst hm
    obtain rfl := hc2 rfl
    refine wpList_append_own_none hgd s x 24 ho base 5 i 1 Tryd.underlying24 hi v l.length (l.map bv) hs hown hx ?_
    exact h v w (by rw [List.append_nil]; exact hown) (World.grownBy.refl _ _)
  | some ad =>
    refine wpList_append_own w hgd s x 24 ho base 5 i (.int .u8 0) 1 1 Tryd.underlying24 hi hz hsz hby rfl (by omega) v l.length (l.map bv) hs hown ad m.length c (m.map bv) hx (by simp) ?_ (one_bytes m) (by simp only [maxLen]; omega) (by omega) hb ?_
    · intro j u hu
      have hne : m ≠ [] := by rintro rfl; simp at hu
      obtain ⟨b, o, e, hr⟩ := hc3 hne
      cases e
      rw [Addr.add_mid]; exact hr j u hu
    · intro v' w' h1 h2 _
      refine h v' w' ?_ h2
      show w'.ownsRow base 5 1 v' (l ++ m).length ((l ++ m).map bv)
      rw [List.length_append, List.map_append]; exact h1
theorem Fresh.grown {a b : World} {base : Nat} {v : Value} {l : List UInt8} {w0 : World} (h : OwnB a base v l) (hg : a.grownBy b v.ownBlock) (hB : Below base w0 a) (hs : base ≤ a.heap.size) : Below base w0 b :=
  hB.grown hg hs (fun k hk => h.fresh k hk)
theorem OwnB.alloc {w : World} {base : Nat} {v : Value} {l : List UInt8} (h : OwnB w base v l) (o : Obj) : OwnB (w.alloc o) base v l := by
  obtain ⟨h1, h2⟩ := h
  refine ⟨h1, ?_⟩
  rcases h2 with h2 | ⟨g, cap, cur, hv, hb, hg, r⟩
  · exact Or.inl h2
  · exact Or.inr ⟨g, cap, cur, hv, hb, by rw [heap_alloc_old _ _ (Array.getElem?_eq_some_iff.1 hg).1]; exact hg, r⟩
/-- Bytes in a block that has just been laid. -/
theorem bytes_new (w : World) (l : List UInt8) (t : TypeId) (_hl : l ≠ []) : BytesAt (w.alloc (.cells (l.map bv).toArray t)) (.slice (some ⟨w.heap.size, 0, none⟩) l.length l.length) l :=
  ⟨_, _, rfl, Nat.le_refl _, fun h => (by cases h), fun _ => ⟨w.heap.size, 0, rfl, fun j v hv => by
    rw [cell_of_row _ _ _ _ t (0, 0) (heap_alloc_new w _), Nat.zero_add]; simpa using hv⟩⟩
theorem OwnB.drew {w : World} {base : Nat} {v : Value} {l : List UInt8} (h : OwnB w base v l) : OwnB w.drew base v l := h
end Go.Proofs.YtlhjifdahagkaaaDoor.Sha
/-
  The walk of padding: the bytes that follow a message of so many bytes, in new memory.
-/
namespace Go.Proofs.YtlhjifdahagkaaaDoor.Sha
open Go.RowKit
def byteAt (n k : Nat) : UInt8 := UInt8.ofNat (n / 2 ^ (56 - 8 * k))
def bytesTo (n : Nat) : Nat → List UInt8
  | 0 => []
  | k + 1 => bytesTo n k ++ [byteAt n k]
theorem length_bytesTo (n k : Nat) : (bytesTo n k).length = k := by
  induction k with
  | zero => rfl
  | succ k ih => simp [bytesTo, ih]
def padHead (told : Nat) : List UInt8 := 128 :: List.replicate ((119 - told % 64) % 64) 0
/-- What follows a message of so many bytes. -/
def padOf (told : Nat) : List UInt8 := padHead told ++ bytesTo (8 * told) 8
theorem byte_form (told k : Nat) : 8 * (told : Int) / 2 ^ (56 - 8 * k) % 256 = ib (byteAt (8 * told) k) := by
  unfold ib byteAt
  rw [UInt8.toNat_ofNat']
  rw [show ((2 : Int) ^ (56 - 8 * k)) = ((2 ^ (56 - 8 * k) : Nat) : Int) from by simp, show (8 * (told : Int)) = ((8 * told : Nat) : Int) from by omega]
  rfl
theorem make_pad (w : World) (z : Nat) (hz : z ≤ 63) : ∃ W, (Instr.makeSlice 24 (.int .i64 (1 + (z : Int))) (.int .i64 (1 + (z : Int) + 8))).run Tryd.prog w = .ok (.slice (some ⟨w.heap.size, 0, none⟩) (1 + z) (9 + z)) W ∧
    W.heap[w.heap.size]? = some (.cells (List.replicate (9 + z) (.int .u8 0)).toArray 5 (0, 0)) ∧ Below w.heap.size w W ∧ W.heap.size = w.heap.size + 1 := by
  obtain ⟨i, hi, h0, hsz, hby⟩ := info5
  refine ⟨w.alloc (.cells (List.replicate (9 + z) (.int .u8 0)).toArray 5), ?_, heap_alloc_new _ _, (Below.refl _ _).alloc (Nat.le_refl _) _, by simp⟩
  have h := run_make (P := Tryd.prog) w 24 5 i (.int .u8 0) Tryd.underlying24 hi h0 .i64 .i64 (1 + (z : Int)) (1 + (z : Int) + 8) (by omega) (by omega) (by rw [hby]; omega) (by omega)
  rw [h, hsz, show (1 + (z : Int)).toNat = 1 + z from by omega, show (1 + (z : Int) + 8).toNat = 9 + z from by omega]
  have e : madeCells (Value.int .u8 0).cells ((9 + z) * 1) = (List.replicate (9 + z) (.int .u8 0)).toArray := by
    rw [Nat.mul_one]
    apply Array.ext
    · simp [madeCells]
    · intro j h1 h2
      simp [madeCells, Value.cells, Nat.mod_one]
  rw [e]
set_option maxRecDepth 100000 in
set_option maxHeartbeats 1000000 in
theorem padding_any (told : Nat) (ht : told ≤ 1099511627776) (w : World) :
    Calls Tryd.prog 84 #[.int .i64 (told : Int)] w fun e w' => ∃ v, e = .returned v ∧ OwnB w' w.heap.size v (padOf told) ∧ Below w.heap.size w w' := by
  generalize ho : told % 64 = o
  generalize hz : (119 - o) % 64 = z
  have hz63 : z ≤ 63 := by omega
  have ht0 : (0 : Int) ≤ (told : Int) := by omega
  have ht1 : (told : Int) ≤ 1099511627776 := by omega
  have hto : ((told : Int)).tmod 64 = (o : Int) := by rw [Int.tmod_eq_emod_of_nonneg (by omega)]; omega
  have htz : (119 - (o : Int)).tmod 64 = (z : Int) := by rw [Int.tmod_eq_emod_of_nonneg (by omega)]; omega
  have ho63 : (o : Int) ≤ 63 := by omega
  have hzz : (z : Int) ≤ 63 := by omega
  obtain ⟨W1, hmk, h1, hb1, hs1⟩ := make_pad w z hz63
  have c1 : W1.cell? ⟨w.heap.size, 0, none⟩ = some (.int .u8 0) := by rw [cell_of_row _ _ 0 _ 5 (0, 0) h1, List.getElem?_toArray, List.getElem?_replicate, if_pos (by omega)]
  have f1 : W1.frozen? ⟨w.heap.size, 0, none⟩ = false := frozen_of_row _ _ _ _ 5 h1
  have h2 := heap_setCell_same W1 w.heap.size 0 _ 5 (.int .u8 128) h1
  have hb2 := hb1.setCell (p := ⟨w.heap.size, 0, none⟩) (Nat.le_refl _) (.int .u8 128)
  have hs2 : (W1.setCell ⟨w.heap.size, 0, none⟩ (.int .u8 128)).heap.size = w.heap.size + 1 := by rw [World.size_setCell]; exact hs1
  generalize hE2 : W1.setCell ⟨w.heap.size, 0, none⟩ (.int .u8 128) = W2 at h2 hb2 hs2
  have hO : OwnB W2 w.heap.size (.slice (some ⟨w.heap.size, 0, none⟩) (1 + z) (9 + z)) (padHead told) := by
    have hl : (padHead told).length = 1 + z := by simp [padHead, ho, hz]; omega
    refine ⟨by simp, Or.inr ⟨w.heap.size, 9 + z, _, by rw [hl], Nat.le_refl _, h2, by omega, by simp only [maxLen]; omega, by simp, ?_⟩⟩
    rw [hl, Nat.mul_one, List.setIfInBounds_toArray, List.toList_toArray]
    obtain ⟨m, hm⟩ : ∃ m, 9 + z = m + 1 := ⟨8 + z, by omega⟩
    rw [hm, List.replicate_succ, List.set_cons_zero, Nat.add_comm 1 z, List.take_succ_cons, List.take_replicate, Nat.min_eq_left (by omega)]
    simp [padHead, ho, hz, bv]; exact ⟨rfl, Or.inr rfl⟩
  have HO := hide hO
  have HB := hide hb2
  have Hz := hide hz
  have Ho := hide ho
  clear hO hb2 h2 hb1 hz ho h1
  go_enter Tryd.func84, Tryd.ntmps84
  go_wp2
  go_loopw [4, 6] (fun v i wr => ∃ k : Nat, k ≤ 8 ∧ i = .int .i64 (56 - 8 * (k : Int)) ∧ OwnB wr w.heap.size v (padHead told ++ bytesTo (8 * told) k) ∧ Below w.heap.size w wr ∧ w.heap.size ≤ wr.heap.size) (fun _ i _ => (intOf i + 8).toNat)
  case atStart => exact ⟨0, by omega, rfl, by rw [bytesTo, List.append_nil]; exact unhide HO, unhide HB, by omega⟩
  case round =>
    obtain ⟨k, hk, rfl, hO, hB, hS⟩ := hrel
    clear HO HB
    by_cases hlt : k < 8
    · have hO1 := hide hO
      clear hO
      have hv : 8 * (told : Int) / 2 ^ (56 - 8 * k) % 256 = ib (byteAt (8 * told) k) := byte_form told k
      have HBk : Hid (bytesTo (8 * told) (k + 1) = bytesTo (8 * told) k ++ [byteAt (8 * told) k]) := rfl
      generalize byteAt (8 * told) k = B at hv HBk
      have hln : (padHead told ++ bytesTo (8 * told) k).length + 1 ≤ 1073741824 := by
        rw [List.length_append, length_bytesTo]; simp only [padHead, List.length_cons, List.length_replicate]; omega
      have Hln := hide hln
      clear hln
      have k8 : 8 * (k : Int) ≤ 56 := by omega
      go_wp2_with (at_builtin; refine wpList_append_bytes rfl _ _ rfl w.heap.size _ _ (padHead told ++ bytesTo (8 * told) k) [B] rfl ((unhide hO1).alloc _) rfl (bytes_new wr [B] 5 (by simp)) (by simp; omega) (unhide Hln) ?_; intro v' w' hO2 hg2)
      go_roundw
      case rel =>
        have hO3 : OwnB w' w.heap.size v' (padHead told ++ bytesTo (8 * told) (k + 1)) := by rw [unhide HBk, ← List.append_assoc]; exact hO2
        have hB3 : Below w.heap.size w w' := Fresh.grown ((unhide hO1).alloc _) hg2 (hB.alloc hS _) (by simp; omega)
        have hS3 : w.heap.size ≤ w'.heap.size := by have := hg2.size; simp at this; omega
        have hi : Value.int .i64 (56 - 8 * (k : Int) - 8) = .int .i64 (56 - 8 * ((k + 1 : Nat) : Int)) := congrArg _ (by omega)
        first
          | exact ⟨k + 1, by omega, hi, hO3, hB3, hS3⟩
          | ((repeat apply Exists.intro); exact ⟨⟨k + 1, by omega, hi, hO3, hB3, hS3⟩, rfl⟩)
      case measure => simp [intOf]; omega
    · obtain rfl : k = 8 := by omega
      clear hlt hk
      have hO1 := hide hO
      clear hO
      go_wp2
      go_ret
      exact ⟨_, rfl, unhide hO1, hB⟩
end Go.Proofs.YtlhjifdahagkaaaDoor.Sha
/-
  The walks of New, Len and Sum of an object: the sum of what it was told, in new memory; the object is as it was.
-/
namespace Go.Proofs.YtlhjifdahagkaaaDoor.Sha
open Go.RowKit
/-- The bytes of a word, the highest first. -/
def wordBytes (x : UInt32) : List UInt8 := [(x >>> 24).toUInt8, (x >>> 16).toUInt8, (x >>> 8).toUInt8, x.toUInt8]
def outTo (st : List UInt32) (k : Nat) : List UInt8 := (st.take k).flatMap wordBytes
theorem ib_toUInt8 (x : UInt32) : ib x.toUInt8 = iv x % 256 := by
  unfold ib iv; rw [UInt32.toNat_toUInt8]; omega
theorem out24 (x : UInt32) : iv x / (16777216 : Int) % 256 = ib (x >>> (24 : UInt32)).toUInt8 := by
  have h := shr_word x 24 (by omega)
  rw [Int.fdiv_eq_ediv_of_nonneg _ (by decide)] at h
  rw [ib_toUInt8]; exact congrArg (· % 256) h
theorem out16 (x : UInt32) : iv x / (65536 : Int) % 256 = ib (x >>> (16 : UInt32)).toUInt8 := by
  have h := shr_word x 16 (by omega)
  rw [Int.fdiv_eq_ediv_of_nonneg _ (by decide)] at h
  rw [ib_toUInt8]; exact congrArg (· % 256) h
theorem out8 (x : UInt32) : iv x / (256 : Int) % 256 = ib (x >>> (8 : UInt32)).toUInt8 := by
  have h := shr_word x 8 (by omega)
  rw [Int.fdiv_eq_ediv_of_nonneg _ (by decide)] at h
  rw [ib_toUInt8]; exact congrArg (· % 256) h
theorem outTo_succ (st : List UInt32) (k : Nat) (h : k < st.length) : outTo st (k + 1) = outTo st k ++ wordBytes (st.getD k 0) := by
  unfold outTo
  rw [List.take_succ_eq_append_getElem h, List.flatMap_append]
  simp [List.getD_eq_getElem?_getD, h]
theorem length_outTo (st : List UInt32) (k : Nat) (h : k ≤ st.length) : (outTo st k).length = 4 * k := by
  induction k with
  | zero => rfl
  | succ k ih => rw [outTo_succ st k (by omega), List.length_append, ih (by omega)]; simp [wordBytes]; omega
/-- The sum of what the object was told. -/
def digest (s : HS) : List UInt8 := (feed s (padOf s.told)).st.flatMap wordBytes
def StartAt (w : World) : Prop := ∃ tk fr, w.heap[1]? = some (.cells (hTab.map wv).toArray tk fr)
theorem built_new : Tryd.prog.built 127 [(0, .agg (hTab.map wv).toArray)] = some (hcells hs0).toArray := by kernel_rfl
set_option maxRecDepth 100000 in
set_option maxHeartbeats 1000000 in
theorem new_any (w : World) (h0 : StartAt w) :
    Calls Tryd.prog 69 #[] w fun e w' => e = .returned (.pointer (some ⟨w.heap.size, 0, none⟩)) ∧ w' = w.alloc (.cells (hcells hs0).toArray 127) := by
  obtain ⟨tk, fr, h⟩ := h0
  have H := hide h
  clear h
  generalize hss : (hTab.map wv).toArray = ss at H
  generalize hcc : (hcells hs0).toArray = cc
  have hb : Tryd.prog.built 127 [(0, .agg ss)] = some cc := by rw [← hss, ← hcc]; exact built_new
  have hz : ss.size = 8 := by rw [← hss]; rfl
  have Hb := hide hb
  clear hss hcc hb
  go_enter Tryd.func69, Tryd.ntmps69
  go_wp2_with (first | (refine wpList_load_row rfl 117 _ rfl 1 rfl tk ss fr _ (unhide H) Tryd.underlying117 rfl (by rw [hz]; kernel_rfl) ?_) | (refine wpList_build rfl 127 _ rfl (by simp [go_sem, unhide Hb]) ?_))
  go_ret
  exact ⟨rfl, by rw [unhide Hb]; rfl⟩
theorem write_val (g : Nat) (hg1 : 2 < g) (s : HS) (hs : s.ok) (w : World) (hg : HashAt w g s) (hK : TabAt w) (x : Value) (l : List UInt8) (hx : BytesAt w x l) (hne : l ≠ [] → x.ownBlock ≠ some g) (ht : s.told + l.length ≤ 4611686018427387904) :
    Calls Tryd.prog 70 #[.pointer (some ⟨g, 0, none⟩), x] w fun e w' => e = .returned (.tuple #[]) ∧ HashAt w' g (feed s l) ∧ w.grownBy w' (some g) := by
  obtain ⟨sp, c, rfl, h1, _, h3⟩ := hx
  refine write_any g hg1 s hs w hg hK sp l c h1 (fun hl => ?_) ht
  obtain ⟨b, o, rfl, hr⟩ := h3 hl
  exact ⟨b, o, rfl, by simpa [Value.ownBlock] using hne hl, hr⟩
def zero47 : Array Value := (List.replicate 8 (Value.int .u32 0) ++ List.replicate 64 (Value.int .u8 0) ++ [Value.int .i64 0]).toArray
theorem info127 : (Tryd.prog.info? 127).map (fun i => (i.zero, i.size)) = some (some (.agg zero47), 73) := by kernel_rfl
theorem size_zero47 : zero47.size = 73 := rfl
theorem make_out (w : World) : ∃ W, (Instr.makeSlice 24 (.int .i64 0) (.int .i64 32)).run Tryd.prog w = .ok (.slice (some ⟨w.heap.size, 0, none⟩) 0 32) W ∧ OwnB W w.heap.size (.slice (some ⟨w.heap.size, 0, none⟩) 0 32) [] ∧ Below w.heap.size w W := by
  obtain ⟨i, hi, h0, hsz, hby⟩ := info5
  obtain ⟨W, h1, h2, h3⟩ := run_make_own (P := Tryd.prog) w w.heap.size 24 5 i (.int .u8 0) 1 Tryd.underlying24 hi h0 hsz .i64 .i64 32 (by rw [hby]; omega) (by simp only [maxLen]; omega) (Nat.le_refl _)
  exact ⟨W, h1, h2, (Below.refl _ _).grown h3 (Nat.le_refl _) (fun k hk => by cases hk)⟩
theorem HashAt.range_st {w : World} {g : Nat} {s : HS} (h : HashAt w g s) (hs : s.ok) : w.rangeAt g 0 (s.st.map wv) := fun j v hv => by
  have hj : j < 8 := by have := (List.getElem?_eq_some_iff.1 hv).1; rw [List.length_map, hs.1] at this; exact this
  rw [cell_of_row w g _ _ 127 (0, 0) h, Nat.zero_add, hcells_get_st s hs j hj, ← getD_map_wv s.st j (by rw [hs.1]; exact hj), List.getElem?_toArray]; exact hv
theorem HashAt.below {a b : World} {g : Nat} {s : HS} (h : HashAt a g s) (hb : Below a.heap.size a b) : HashAt b g s := by
  show b.heap[g]? = _
  rw [hb.block g (Array.getElem?_eq_some_iff.1 h).1]; exact h
theorem TabAt.below {a b : World} (h : TabAt a) (hb : Below a.heap.size a b) : TabAt b := by
  obtain ⟨tk, fr, hf⟩ := h
  exact ⟨tk, fr, by rw [hb.block 2 (Array.getElem?_eq_some_iff.1 hf).1]; exact hf⟩
theorem size_hcells (s : HS) (hs : s.ok) : (hcells s).toArray.size = 73 := by rw [List.size_toArray]; exact length_hcells s hs
theorem one_hcells (s : HS) : (hcells s).toArray.all (·.oneCell') = true := by
  refine all_oneCell_toArray fun v hv => ?_
  unfold hcells at hv
  rcases List.mem_append.1 hv with h | h
  · rcases List.mem_append.1 h with h | h
    · obtain ⟨x, _, rfl⟩ := List.mem_map.1 h; rfl
    · obtain ⟨x, _, rfl⟩ := List.mem_map.1 h; rfl
  · rw [List.mem_singleton.1 h]; rfl
set_option maxRecDepth 100000 in
set_option maxHeartbeats 1000000 in
theorem hsum_any (g : Nat) (s : HS) (hs : s.ok) (w : World) (hw : 2 < w.heap.size) (hg : HashAt w g s) (hK : TabAt w) (ht : s.told ≤ 1099511627776) :
    Calls Tryd.prog 72 #[.pointer (some ⟨g, 0, none⟩)] w fun e w' => ∃ v, e = .returned v ∧ OwnB w' w.heap.size v (digest s) ∧ Below w.heap.size w w' := by
  have hz := size_hcells s hs
  have h1 := one_hcells s
  have hT := hcells_get_told s hs
  have hgs : g < w.heap.size := (Array.getElem?_eq_some_iff.1 hg).1
  have hW1 : HashAt (w.alloc (.cells (hcells s).toArray 127)) w.heap.size s := heap_alloc_new w _
  have hK1 : TabAt (w.alloc (.cells (hcells s).toArray 127)) := by
    obtain ⟨tk, fr, h⟩ := hK
    exact ⟨tk, fr, by rw [heap_alloc_old _ _ (by omega)]; exact h⟩
  have cT : (w.alloc (.cells (hcells s).toArray 127)).cell? ⟨g, 72, none⟩ = some (.int .i64 (s.told : Int)) := by
    rw [World.cell?_alloc_lt _ _ _ (show (⟨g, 72, none⟩ : Addr).block < _ from hgs), cell_of_row _ _ 72 _ 127 (0, 0) hg]; exact hT
  have hB1 : Below w.heap.size w (w.alloc (.cells (hcells s).toArray 127)) := (Below.refl _ _).alloc (Nat.le_refl _) _
  have hs1 : (w.alloc (.cells (hcells s).toArray 127)).heap.size = w.heap.size + 1 := by simp
  have hrw := fun (c : Array Value) => World.setRow_alloc_new w c (hcells s).toArray 127
  have hzv := (zero_of_info info127).1
  have hzz := size_zero47
  generalize zero47 = Z at hzv hzz
  generalize hhc : (hcells s).toArray = hc at *
  have Hg := hide (show w.heap[g]? = some (.cells hc 127 (0, 0)) by rw [← hhc]; exact hg)
  have H1 := hide h1
  generalize hE : w.alloc (.cells hc 127) = W1 at *
  have HW1 := hide hW1
  have HK1 := hide hK1
  have HB1 := hide hB1
  have HE := hide hE
  clear hg h1 hT hW1 hK1 hB1 hK hhc hE
  go_enter Tryd.func72, Tryd.ntmps72
  go_wp2_with (first | (refine wpList_load_row rfl 127 _ rfl g rfl 127 hc (0, 0) _ (unhide Hg) Tryd.underlying127 rfl (by rw [hz]; kernel_rfl) ?_) | (refine wpList_store_row rfl 127 _ _ rfl w.heap.size hc rfl rfl 127 _ (heap_alloc_new w _) (by rw [hz]; kernel_rfl) (by rw [hz, hzz]) (unhide H1) ?_))
  refine (padding_any s.told ht W1).mono ?_
  rintro e w2 ⟨v2, rfl, hO2, hB2⟩
  go_wp2_with fail
  have hW2 : HashAt w2 w.heap.size s := (unhide HW1).below hB2
  have hK2 : TabAt w2 := (unhide HK1).below hB2
  have hne : v2.ownBlock ≠ some w.heap.size := fun e => by have := hO2.fresh _ e; omega
  have hb2 := hO2.bytes
  have HX := hide hO2
  have HB2 := hide ((unhide HB1).trans (hB2.mono (by omega)))
  have hs2 : w.heap.size + 1 ≤ w2.heap.size := by have := hB2.size; omega
  clear hO2 hB2
  have hpl : (padOf s.told).length ≤ 100 := by
    unfold padOf padHead; rw [List.length_append, length_bytesTo]; simp only [List.length_cons, List.length_replicate]; omega
  refine (write_val w.heap.size hw s hs w2 hW2 hK2 v2 (padOf s.told) hb2 (fun _ => hne) (by omega)).mono ?_
  rintro e w3 ⟨rfl, hH3, hG3⟩
  clear hW2 hK2 hb2 hne HX
  have hok3 := feed_ok s (padOf s.told) hs
  generalize hs3 : feed s (padOf s.told) = s3 at hH3 hok3
  obtain ⟨W4, hmk, hO4, hB4⟩ := make_out w3
  have hH4 := hH3.below hB4
  have HR := hide (hH4.range_st hok3)
  have hl8 : (s3.st.map wv).length = 8 := by rw [List.length_map]; exact hok3.1
  have hsz4 : w.heap.size + 1 ≤ w3.heap.size := by have := hG3.size; omega
  have hB4' : Below w.heap.size w W4 := ((unhide HB2).grown hG3 (by omega) (fun k hk => by cases hk; exact Nat.le_refl _)).trans (hB4.mono (by omega))
  have hO4' : OwnB W4 w.heap.size (.slice (some ⟨w3.heap.size, 0, none⟩) 0 32) [] := by
    obtain ⟨q1, q2⟩ := hO4
    refine ⟨q1, ?_⟩
    rcases q2 with q2 | ⟨g', cap, cur, hv, hb, r⟩
    · exact Or.inl q2
    · exact Or.inr ⟨g', cap, cur, hv, by omega, r⟩
  have hz4 : w.heap.size ≤ W4.heap.size := by have := hB4.size; omega
  have HO4 := hide hO4'
  have HB4 := hide hB4'
  have Hs3 := hide hs3
  have Hok := hide hok3
  clear hs3 hO4 hO4' hB4 hB4' hH3 hH4 hG3 HB2 HB1 HW1 HK1 hok3
  go_wp2_with (refine wpList_load_mid rfl 117 _ rfl w.heap.size 0 rfl (s3.st.map wv) _ (unhide HR) Tryd.underlying117 rfl (by rw [hl8]; kernel_rfl) ?_)
  go_loopw [4, 19] (fun v i wr => ∃ k : Nat, k ≤ 8 ∧ i = .int .i64 k ∧ OwnB wr w.heap.size v (outTo s3.st k) ∧ Below w.heap.size w wr ∧ w.heap.size ≤ wr.heap.size) (fun _ i _ => 8 - (intOf i).toNat)
  case atStart => exact ⟨0, by omega, rfl, unhide HO4, unhide HB4, hz4⟩
  case round =>
    obtain ⟨k, hk, rfl, hO, hB, hS⟩ := hrel
    clear HO4 HB4
    by_cases hlt : k < 8
    · have hI := fun w => run_index8 w (s3.st.map wv).toArray k _ hlt (getD_map_wv s3.st k (by rw [(unhide Hok).1]; exact hlt))
      have HBk : Hid (outTo s3.st (k + 1) = outTo s3.st k ++ wordBytes (s3.st.getD k 0)) := outTo_succ s3.st k (by rw [(unhide Hok).1]; exact hlt)
      generalize s3.st.getD k 0 = x at hI HBk
      have hO1 := hide hO
      clear hO
      have v0 := out24 x
      have v1 := out16 x
      have v2' := out8 x
      have v3 := (ib_toUInt8 x).symm
      have HWb : Hid (wordBytes x = [(x >>> 24).toUInt8, (x >>> 16).toUInt8, (x >>> 8).toUInt8, x.toUInt8]) := rfl
      generalize (x >>> (24 : UInt32)).toUInt8 = b0 at v0 HWb
      generalize (x >>> (16 : UInt32)).toUInt8 = b1 at v1 HWb
      generalize (x >>> (8 : UInt32)).toUInt8 = b2 at v2' HWb
      generalize x.toUInt8 = b3 at v3 HWb
      have hln : (outTo s3.st k).length + 4 ≤ 1073741824 := by rw [length_outTo _ _ (by rw [(unhide Hok).1]; exact hk)]; omega
      have Hln := hide hln
      clear hln
      go_wp2_with (at_builtin; refine wpList_append_bytes rfl _ _ rfl w.heap.size _ _ (outTo s3.st k) [b0, b1, b2, b3] rfl ((unhide hO1).alloc _) rfl (bytes_new wr [b0, b1, b2, b3] 5 (by simp)) (by simp; omega) (unhide Hln) ?_; intro v' w' hO2 hg2)
      go_roundw
      case rel =>
        have hO3 : OwnB w' w.heap.size v' (outTo s3.st (k + 1)) := by rw [unhide HBk, unhide HWb]; exact hO2
        have hB3 : Below w.heap.size w w' := Fresh.grown ((unhide hO1).alloc _) hg2 (hB.alloc hS _) (by simp; omega)
        have hS3 : w.heap.size ≤ w'.heap.size := by have := hg2.size; simp at this; omega
        first
          | exact ⟨k + 1, by omega, by go_num, hO3, hB3, hS3⟩
          | ((repeat apply Exists.intro); exact ⟨⟨k + 1, by omega, by go_num, hO3, hB3, hS3⟩, rfl⟩)
      case measure => simp [intOf]; omega
    · obtain rfl : k = 8 := by omega
      clear hlt hk
      have hO1 := hide hO
      clear hO
      go_wp2
      go_ret
      refine ⟨_, rfl, ?_, hB⟩
      have e : digest s = outTo s3.st 8 := by
        unfold digest outTo; rw [unhide Hs3, List.take_of_length_le (by rw [(unhide Hok).1]; exact Nat.le_refl _)]
      rw [e]; exact unhide hO1
end Go.Proofs.YtlhjifdahagkaaaDoor.Sha
/-
  The walk of Sum: the sum of a message, in new memory; nothing that was there has turned.
-/
namespace Go.Proofs.YtlhjifdahagkaaaDoor.Sha
open Go.RowKit
/-- The sum of a message. -/
def shaOf (l : List UInt8) : List UInt8 := digest (feed hs0 l)
/-- The two tables lie where the program lays them. -/
def Ready (w : World) : Prop := StartAt w ∧ TabAt w
theorem Ready.lt {w : World} (h : Ready w) : 2 < w.heap.size := by
  obtain ⟨tk, fr, hf⟩ := h.2
  exact (Array.getElem?_eq_some_iff.1 hf).1
theorem Ready.below {a b : World} (h : Ready a) (hb : Below a.heap.size a b) : Ready b := by
  refine ⟨?_, h.2.below hb⟩
  obtain ⟨tk, fr, hf⟩ := h.1
  exact ⟨tk, fr, by rw [hb.block 1 (Array.getElem?_eq_some_iff.1 hf).1]; exact hf⟩
theorem Ready.grown {a b : World} {g : Nat} (h : Ready a) (hb : a.grownBy b (some g)) (hg : 2 < g) : Ready b := by
  refine ⟨?_, tab_grown h.2 hb (by omega)⟩
  obtain ⟨tk, fr, hf⟩ := h.1
  exact ⟨tk, fr, by rw [hb.block 1 (Array.getElem?_eq_some_iff.1 hf).1 (by simp; omega)]; exact hf⟩
theorem BytesAt.old {w : World} {x : Value} {l : List UInt8} (h : BytesAt w x l) (hl : l ≠ []) (k : Nat) (hk : x.ownBlock = some k) : k < w.heap.size := by
  obtain ⟨sp, c, rfl, _, _, h3⟩ := h
  obtain ⟨b, o, rfl, hr⟩ := h3 hl
  simp [Value.ownBlock] at hk
  subst hk
  obtain ⟨u, r, rfl⟩ : ∃ u r, l = u :: r := by cases l with | nil => exact absurd rfl hl | cons u r => exact ⟨u, r, rfl⟩
  exact World.block_lt_of_cell? w _ (hr 0 (bv u) rfl)
theorem OwnB.mono {w : World} {B B' : Nat} {v : Value} {l : List UInt8} (h : OwnB w B v l) (hB : B' ≤ B) : OwnB w B' v l := by
  obtain ⟨h1, h2⟩ := h
  refine ⟨h1, ?_⟩
  rcases h2 with h2 | ⟨g, cap, cur, hv, hb, r⟩
  · exact Or.inl h2
  · exact Or.inr ⟨g, cap, cur, hv, by omega, r⟩
end Go.Proofs.YtlhjifdahagkaaaDoor.Sha
/-
  Plain words on SHA-256 and on rows of bytes, as the walk of the reference's Sum wants them.
-/
namespace Go.Proofs.YtlhjifdahagkaaaDoor.Sha
open Go.RowKit
theorem BytesAt.cell {w : World} {x : Value} {l : List UInt8} (h : BytesAt w x l) (hl : l ≠ []) : ∃ b o c, x = .slice (some ⟨b, o, none⟩) l.length c ∧ l.length ≤ c ∧ ∀ j, j < l.length → w.cell? ⟨b, o + j, none⟩ = some (.int .u8 (ib (l.getD j 0))) := by
  obtain ⟨sp, c, rfl, h1, _, h3⟩ := h
  obtain ⟨b, o, rfl, hr⟩ := h3 hl
  exact ⟨b, o, c, rfl, h1, fun j hj => hr j _ (by simp [bv, List.getD_eq_getElem?_getD, hj])⟩
theorem BytesAt.take {w : World} {sp : Option Addr} {c : Nat} {l : List UInt8} (h : BytesAt w (.slice sp l.length c) l) (n : Nat) (hn : n ≤ l.length) : BytesAt w (.slice sp n c) (l.take n) := by
  obtain ⟨sp', c', e, h1, h2, h3⟩ := h
  cases e
  have hl : (l.take n).length = n := by rw [List.length_take]; omega
  refine ⟨sp, c, by rw [hl], by omega, h2, fun hne => ?_⟩
  obtain ⟨b, o, e, hr⟩ := h3 (by rintro rfl; simp at hne)
  refine ⟨b, o, e, fun j v hv => hr j v ?_⟩
  rw [List.map_take, List.getElem?_take] at hv
  split at hv
  · exact hv
  · cases hv
theorem BytesAt.drop {w : World} {sp : Option Addr} {c : Nat} {l : List UInt8} (h : BytesAt w (.slice sp l.length c) l) (n : Nat) (hn : n ≤ l.length) : BytesAt w (.slice (if c = n then sp else sp.map (·.add n)) (l.length - n) (c - n)) (l.drop n) := by
  obtain ⟨sp', c', e, h1, h2, h3⟩ := h
  cases e
  refine ⟨_, _, by rw [List.length_drop], by rw [List.length_drop]; omega, fun hn => ?_, fun hne => ?_⟩
  · by_cases hc : c = n
    · omega
    · rw [if_neg hc] at hn
      have := h2 (by simpa using hn); omega
  · have hlt : n < l.length := by
      rcases Nat.lt_or_ge n l.length with h | h
      · exact h
      · exact absurd (List.drop_of_length_le h) hne
    obtain ⟨b, o, rfl, hr⟩ := h3 (by rintro rfl; simp at hlt)
    rw [if_neg (by omega)]
    exact ⟨b, o + n, by simp [Addr.add_mid], range_drop hr n⟩
theorem length_shaOf (l : List UInt8) : (shaOf l).length = 32 := by
  unfold shaOf digest
  have h := (feed_ok (feed hs0 l) (padOf (feed hs0 l).told) (feed_ok hs0 l hs0_ok)).1
  have e : (feed (feed hs0 l) (padOf (feed hs0 l).told)).st.flatMap wordBytes = outTo (feed (feed hs0 l) (padOf (feed hs0 l).told)).st 8 := by
    unfold outTo; rw [List.take_of_length_le (by omega)]
  rw [e, length_outTo _ _ (by omega)]
theorem BytesAt.grown' {a b : World} {g : Nat} {x : Value} {l : List UInt8} (h : BytesAt a x l) (hg : a.grownBy b (some g)) (hne : l ≠ [] → x.ownBlock ≠ some g) : BytesAt b x l := by
  by_cases hl : l = []
  · subst hl
    obtain ⟨sp, c, e, h1, h2, _⟩ := h
    exact ⟨sp, c, e, h1, h2, fun h => absurd rfl h⟩
  · exact h.grown hg (hne hl)
end Go.Proofs.YtlhjifdahagkaaaDoor.Sha
/-
  The walks of the reference's small functions: turn and K.
-/
namespace Go.Proofs.YtlhjifdahagkaaaDoor.Sha
open Go.RowKit
theorem turn_form (x : UInt32) (n : Nat) (h1 : 1 ≤ n) (h2 : n ≤ 31) : bits .or .u32 (iv x / 2 ^ n) (IntKind.u32.wrap (iv x * 2 ^ (32 - n))) = iv (rotr x n) := by
  have hl := shl_word x (32 - n) (by omega)
  have hr := shr_word x n (by omega)
  rw [show ((2 : Int) ^ n) = ((2 ^ n : Nat) : Int) from by simp, Int.fdiv_eq_ediv_of_nonneg _ (Int.natCast_nonneg _)] at hr
  rw [hl, show ((2 : Int) ^ n) = ((2 ^ n : Nat) : Int) from by simp, hr, iv_or]
  rfl
set_option maxHeartbeats 400000 in
theorem turn_any (x : UInt32) (n : Int) (h1 : 1 ≤ n) (h2 : n ≤ 31) (w : World) :
    Calls Tryd.prog 77 #[.int .u32 (iv x), .int .i64 n] w fun e w' => e = .returned (.int .u32 (iv (rotr x n.toNat))) ∧ w' = w.drew := by
  obtain ⟨n, rfl⟩ := Int.eq_ofNat_of_zero_le (show 0 ≤ n by omega)
  rw [Int.toNat_natCast]
  have h1' : 1 ≤ n := by omega
  have h2' : n ≤ 31 := by omega
  have q : IntKind.i64.wrap (32 - (n : Int)) = ((32 - n : Nat) : Int) := by rw [IntWalk.i64_in _ (by omega)]; omega
  have hls := fun w => run_shl_word Tryd.prog w x (32 - n) (by omega) .i64
  have hrs := fun w => run_shr_word Tryd.prog w x n (by omega) .i64
  go_enter Tryd.func77, Tryd.ntmps77
  go_wp2
  go_region_held3 (fun _ => True) (trivial) (fail)
  go_wp2
  go_ret
  exact ⟨congrArg (fun z => Ending.returned (.int .u32 z)) (turn_form x n h1' h2'), rfl⟩
theorem wpList_build_of {ops : Array Oper} {rest : List Oper} {o : Oper} {a : Act} {w : World} {Q : Exit → Act → World → Prop} (hg : o.guard = none) (t : TypeId) (parts : Array (Nat × Operand)) (ho : o.op = .build t parts) (cells : Array Value)
    (hf : Tryd.prog.built t (parts.map fun (i, x) => (i, a.eval x)).toList = some cells) (h : wpList Tryd.prog ops Q rest (a.put o.dst (.agg cells)) w) : wpList Tryd.prog ops Q (o :: rest) a w :=
  wpList_build hg t parts ho (by rw [hf]; rfl) (by rw [hf]; exact h)
theorem built_K : Tryd.prog.built 118 [(0, .int .u32 1116352408), (1, .int .u32 1899447441), (2, .int .u32 3049323471), (3, .int .u32 3921009573), (4, .int .u32 961987163), (5, .int .u32 1508970993), (6, .int .u32 2453635748), (7, .int .u32 2870763221), (8, .int .u32 3624381080), (9, .int .u32 310598401), (10, .int .u32 607225278), (11, .int .u32 1426881987), (12, .int .u32 1925078388), (13, .int .u32 2162078206), (14, .int .u32 2614888103), (15, .int .u32 3248222580), (16, .int .u32 3835390401), (17, .int .u32 4022224774), (18, .int .u32 264347078), (19, .int .u32 604807628), (20, .int .u32 770255983), (21, .int .u32 1249150122), (22, .int .u32 1555081692), (23, .int .u32 1996064986), (24, .int .u32 2554220882), (25, .int .u32 2821834349), (26, .int .u32 2952996808), (27, .int .u32 3210313671), (28, .int .u32 3336571891), (29, .int .u32 3584528711), (30, .int .u32 113926993), (31, .int .u32 338241895), (32, .int .u32 666307205), (33, .int .u32 773529912), (34, .int .u32 1294757372), (35, .int .u32 1396182291), (36, .int .u32 1695183700), (37, .int .u32 1986661051), (38, .int .u32 2177026350), (39, .int .u32 2456956037), (40, .int .u32 2730485921), (41, .int .u32 2820302411), (42, .int .u32 3259730800), (43, .int .u32 3345764771), (44, .int .u32 3516065817), (45, .int .u32 3600352804), (46, .int .u32 4094571909), (47, .int .u32 275423344), (48, .int .u32 430227734), (49, .int .u32 506948616), (50, .int .u32 659060556), (51, .int .u32 883997877), (52, .int .u32 958139571), (53, .int .u32 1322822218), (54, .int .u32 1537002063), (55, .int .u32 1747873779), (56, .int .u32 1955562222), (57, .int .u32 2024104815), (58, .int .u32 2227730452), (59, .int .u32 2361852424), (60, .int .u32 2428436474), (61, .int .u32 2756734187), (62, .int .u32 3204031479), (63, .int .u32 3329325298)] = some (kTab.map wv).toArray := by kernel_rfl
set_option maxRecDepth 100000 in
set_option maxHeartbeats 1000000 in
theorem refK_any (w : World) : Calls Tryd.prog 76 #[] w fun e w' => e = .returned (.agg (kTab.map wv).toArray) ∧ Below w.heap.size w w' := by
  have hb := built_K
  have hz : (kTab.map wv).toArray.size = 64 := rfl
  have h1 := one_words kTab
  generalize (kTab.map wv).toArray = kk at *
  have H1 := hide h1
  have Hb := hide hb
  clear h1 hb
  go_enter Tryd.func76, Tryd.ntmps76
  go_wp2_with (first | (refine wpList_build_of rfl 118 _ rfl kk (by simp [go_sem, unhide Hb]) ?_) | (refine wpList_store_row rfl 118 _ _ rfl w.heap.size kk rfl rfl 118 _ (heap_alloc_new w _) (by rw [hz]; kernel_rfl) (by rw [hz]; rfl) (unhide H1) ?_))
  refine bodyPost_ret (results_cell_row Tryd.results76 _ _ w.heap.size 118 kk (0, 0) _ rfl ?_ Tryd.underlying118 rfl (by rw [hz]; kernel_rfl)) rfl ⟨rfl, ?_⟩
  · exact setRow_heap _ _ _ _ _ _ (heap_alloc_new w _)
  · exact below_setRow ((Below.refl _ _).alloc (Nat.le_refl _) _) (Nat.le_refl _) _
end Go.Proofs.YtlhjifdahagkaaaDoor.Sha
/-
  What holds of the memory while the reference sums: the state's block, the table's, the padded message; and plain words on whole blocks.
-/
namespace Go.Proofs.YtlhjifdahagkaaaDoor.Sha
open Go.RowKit
/-- The state behind so many whole blocks. -/
def stTo (M : List UInt8) : Nat → List UInt32
  | 0 => hTab
  | j + 1 => mixed (stTo M j) ((M.drop (64 * j)).take 64)
theorem length_stTo (M : List UInt8) (j : Nat) : (stTo M j).length = 8 := by
  induction j with
  | zero => rfl
  | succ j ih => exact length_mixed _ _ ih
theorem feed_blocks (M : List UInt8) (j : Nat) (h : 64 * j ≤ M.length) : (feed hs0 (M.take (64 * j))).st = stTo M j ∧ (feed hs0 (M.take (64 * j))).told = 64 * j ∧ (feed hs0 (M.take (64 * j))).last.length = 64 := by
  induction j with
  | zero => exact ⟨rfl, rfl, rfl⟩
  | succ j ih =>
    obtain ⟨h1, h2, h3⟩ := ih (by omega)
    have e : M.take (64 * (j + 1)) = M.take (64 * j) ++ (M.drop (64 * j)).take 64 := by
      rw [show 64 * (j + 1) = 64 * j + 64 from by omega, List.take_add]
    have hl : ((M.drop (64 * j)).take 64).length = 64 := by rw [List.length_take, List.length_drop]; omega
    rw [e, feed_append, feed_fill _ _ h3 (by rw [h2, hl]; omega)]
    refine ⟨?_, ?_, ?_⟩
    · show mixed _ _ = _
      rw [h1, h2, show 64 * j % 64 = 0 from by omega, List.take_zero, List.nil_append]
      rfl
    · show _ + _ = _
      rw [h2, hl]; omega
    · show List.length (_ ++ _) = 64
      rw [h2, show 64 * j % 64 = 0 from by omega, List.take_zero, List.nil_append, hl]
theorem length_padOf (n : Nat) : (n + (padOf n).length) % 64 = 0 := by
  unfold padOf padHead
  rw [List.length_append, length_bytesTo, List.length_cons, List.length_replicate]
  omega
theorem sha_blocks (l : List UInt8) : shaOf l = (stTo (l ++ padOf l.length) ((l ++ padOf l.length).length / 64)).flatMap wordBytes := by
  have ht : (feed hs0 l).told = l.length := by rw [feed_told]; exact Nat.zero_add _
  have hm : (l ++ padOf l.length).length % 64 = 0 := by rw [List.length_append]; exact length_padOf l.length
  unfold shaOf digest
  rw [ht, ← feed_append]
  have h := (feed_blocks (l ++ padOf l.length) ((l ++ padOf l.length).length / 64) (by omega)).1
  rw [show 64 * ((l ++ padOf l.length).length / 64) = (l ++ padOf l.length).length from by omega, List.take_of_length_le (Nat.le_refl _)] at h
  rw [h]
/-- The state in block Hb, the table in Kb, the padded message: what the reference leans on. -/
structure RefAt (w : World) (Hb Kb : Nat) (vM : Value) (M : List UInt8) (st : List UInt32) (wr : World) : Prop where
  h : wr.heap[Hb]? = some (.cells (st.map wv).toArray 117 (0, 0))
  k : wr.heap[Kb]? = some (.cells (kTab.map wv).toArray 118 (0, 0))
  m : BytesAt wr vM M
  bel : Below w.heap.size w wr
  hb : w.heap.size ≤ Hb
  kb : Hb < Kb
  ne : vM.ownBlock ≠ some Hb
theorem RefAt.lt {w : World} {Hb Kb : Nat} {vM : Value} {M : List UInt8} {st : List UInt32} {wr : World} (i : RefAt w Hb Kb vM M st wr) : Kb < wr.heap.size := (Array.getElem?_eq_some_iff.1 i.k).1
theorem RefAt.below {w : World} {Hb Kb : Nat} {vM : Value} {M : List UInt8} {st : List UInt32} {a b : World} (i : RefAt w Hb Kb vM M st a) (hb : Below a.heap.size a b) : RefAt w Hb Kb vM M st b := by
  have hl := i.lt
  have hk := i.kb
  exact ⟨by rw [hb.block _ (by omega)]; exact i.h, by rw [hb.block _ (by omega)]; exact i.k, i.m.below hb, i.bel.trans (hb.mono i.bel.size), i.hb, i.kb, i.ne⟩
theorem RefAt.setNew {w : World} {Hb Kb : Nat} {vM : Value} {M : List UInt8} {st : List UInt32} {a : World} {N : Nat} (i : RefAt w Hb Kb vM M st a) (hN : Kb < N) (hm : M ≠ [] → vM.ownBlock ≠ some N) (x : Addr) (hx : x.block = N) (v : Value) : RefAt w Hb Kb vM M st (a.setCell x v) := by
  have hk := i.kb
  have hh := i.hb
  refine ⟨by rw [heap_setCell_other _ _ _ _ (by omega)]; exact i.h, by rw [heap_setCell_other _ _ _ _ (by omega)]; exact i.k, ?_, i.bel.setCell (by omega) v, i.hb, i.kb, i.ne⟩
  exact i.m.grown' (grown_setCell (World.grownBy.refl a (some N)) x v (by rw [hx])) hm
theorem RefAt.setH {w : World} {Hb Kb : Nat} {vM : Value} {M : List UInt8} {st st' : List UInt32} {a : World} (i : RefAt w Hb Kb vM M st a) (j : Nat) (v : Value) (he : ((st.map wv).toArray).setIfInBounds j v = (st'.map wv).toArray) : RefAt w Hb Kb vM M st' (a.setCell ⟨Hb, j, none⟩ v) := by
  have hk := i.kb
  have hh := i.hb
  refine ⟨by rw [heap_setCell_same _ _ _ _ _ _ i.h, he], by rw [heap_setCell_other _ _ _ _ (by show Kb ≠ Hb; omega)]; exact i.k, ?_, i.bel.setCell hh v, i.hb, i.kb, i.ne⟩
  exact i.m.grown (grown_setCell (World.grownBy.refl a (some Hb)) _ v rfl) i.ne
theorem take_flat (st : List UInt32) (h8 : st.length = 8) (q r : Nat) (hq : q < 8) (hr : r < 4) : (st.flatMap wordBytes).take (4 * q + r + 1) = (st.flatMap wordBytes).take (4 * q + r) ++ [(wordBytes (st.getD q 0)).getD r 0] := by
  have hlen : (st.flatMap wordBytes).length = 32 := by
    have := length_outTo st 8 (by omega)
    unfold outTo at this
    rwa [List.take_of_length_le (by omega)] at this
  have e : st.flatMap wordBytes = outTo st q ++ (wordBytes (st.getD q 0) ++ (st.drop (q + 1)).flatMap wordBytes) := by
    have e1 : st = st.take q ++ (st.getD q 0 :: st.drop (q + 1)) := by
      have h : q < st.length := by omega
      rw [List.getD_eq_getElem?_getD, List.getElem?_eq_getElem h, Option.getD_some, ← List.drop_eq_getElem_cons h, List.take_append_drop]
    unfold outTo
    rw [← List.flatMap_cons, ← List.flatMap_append, ← e1]
  rw [List.take_succ_eq_append_getElem (by omega)]
  congr 2
  have ho := length_outTo st q (by omega)
  have hw : (wordBytes (st.getD q 0)).length = 4 := rfl
  generalize wordBytes (st.getD q 0) = wb at e hw ⊢
  rw [← Option.some.injEq, ← List.getElem?_eq_getElem, e, List.getElem?_append_right (by omega), ho, show 4 * q + r - 4 * q = r from by omega, List.getElem?_append_left (by omega), List.getD_eq_getElem?_getD, List.getElem?_eq_getElem (by omega)]
  rfl
end Go.Proofs.YtlhjifdahagkaaaDoor.Sha
