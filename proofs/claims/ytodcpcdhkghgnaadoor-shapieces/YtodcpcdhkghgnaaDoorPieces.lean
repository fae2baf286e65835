/-
  The walk of the statement ShaPieces: it returns true; nothing that was there has turned.
-/
import Derived.Test.YtodcpcdhkghgnaaDoorWhere
import Derived.Test.YtodcpcdhkghgnaaDoorLong
import Derived.Test.YtodcpcdhkghgnaaDoorMasked
namespace Go.Proofs.YtodcpcdhkghgnaaDoor
open Go.RowKit
/-- The pieces lie where the slice says, and hold these bytes. -/
def PiecesAt (w : World) (sp : Option Addr) (L : List (List UInt8)) : Prop :=
  ∀ i, i < L.length → ∃ b o s c, sp = some ⟨b, o, none⟩ ∧ w.cell? ⟨b, o + i, none⟩ = some (.slice s (L.getD i []).length c) ∧ BytesAt w (.slice s (L.getD i []).length c) (L.getD i []) ∧ (L.getD i []).length ≤ 140737488351232
theorem PiecesAt.below {a b : World} {sp : Option Addr} {L : List (List UInt8)} (h : PiecesAt a sp L) (hb : Below a.heap.size a b) : PiecesAt b sp L := fun i hi => by
  obtain ⟨bb, o, s, c, h1, h2, h3, h4⟩ := h i hi
  exact ⟨bb, o, s, c, h1, by rw [hb.cell (World.block_lt_of_cell? a _ h2)]; exact h2, h3.below hb, h4⟩
theorem Told.on {w : World} {g : Nat} {v : Value} {l : List UInt8} {a b : World} (i : Told w g v l a) (hb : Below a.heap.size a b) : Told w g v l b :=
  ⟨i.h.below hb, i.r.below hb, i.o.below hb, i.bel.trans (hb.mono i.bel.size), Nat.lt_of_lt_of_le i.gl hb.size, i.gw, i.g1⟩
theorem Told.grown {w : World} {g : Nat} {v : Value} {l : List UInt8} {a b : World} {k : Nat} (i : Told w g v l a) (hg : a.grownBy b (some k)) (hk : g < k) (hne : v.ownBlock ≠ some k) : Told w g v l b :=
  ⟨i.h.kept hg hk (fun _ e => by cases e; exact Nat.le_refl _), i.r.kept hg (B := k) (Nat.lt_trans i.g1 hk) (fun _ e => by cases e; exact Nat.le_refl _), i.o.kept hg (Or.inr hne),
    i.bel.grown hg i.bel.size (fun _ e => by cases e; have := i.gw; omega), Nat.lt_of_lt_of_le i.gl hg.size, i.gw, i.g1⟩
/-- A row u of the call's own, apart from the object and from what was told, that is being written over. -/
structure Over (w : World) (g : Nat) (v : Value) (l : List UInt8) (G : Nat) (u : Value) (n : Nat) (wr : World) : Prop where
  t : Told w g v l wr
  o : ∃ q : List UInt8, q.length = n ∧ OwnB wr G u q
  lt : g < G
  ne : ∀ k, u.ownBlock = some k → v.ownBlock ≠ some k
theorem Over.form {w : World} {g : Nat} {v : Value} {l : List UInt8} {G : Nat} {u : Value} {n : Nat} {wr : World} (h : Over w g v l G u n wr) : ∃ sp c, u = .slice sp n c ∧ (0 < n → ∃ b, sp = some ⟨b, 0, none⟩) := by
  obtain ⟨q, rfl, hq⟩ := h.o
  rcases hq.2 with ⟨rfl, hn⟩ | ⟨b, cap, cur, rfl, _⟩
  · exact ⟨none, 0, by rw [hn], fun h0 => by omega⟩
  · exact ⟨_, _, rfl, fun _ => ⟨b, rfl⟩⟩
theorem Over.cell {w : World} {g : Nat} {v : Value} {l : List UInt8} {G b c n : Nat} {wr : World} (h : Over w g v l G (.slice (some ⟨b, 0, none⟩) n c) n wr) (j : Nat) (hj : j < n) : ∃ q : UInt8, wr.cell? ⟨b, j, none⟩ = some (.int .u8 (ib q)) ∧ wr.frozen? ⟨b, j, none⟩ = false := by
  obtain ⟨q, rfl, hq⟩ := h.o
  refine ⟨q.getD j 0, ?_, World.ownsRow.frozenAt hq j⟩
  rw [World.ownsRow.cellAt hq j (by omega)]
  simp [bv, List.getD_eq_getElem?_getD, hj]
theorem Over.store {w : World} {g : Nat} {v : Value} {l : List UInt8} {G b c n : Nat} {wr : World} (h : Over w g v l G (.slice (some ⟨b, 0, none⟩) n c) n wr) (j : Nat) (x : UInt8) : Over w g v l G (.slice (some ⟨b, 0, none⟩) n c) n (wr.setCell ⟨b, j, none⟩ (.int .u8 (ib x))) := by
  obtain ⟨q, rfl, hq⟩ := h.o
  obtain ⟨h1, h2⟩ := World.ownsRow.stored hq j (.int .u8 (ib x))
  have hb : G ≤ b := hq.fresh b rfl
  refine ⟨h.t.grown h2 (Nat.lt_of_lt_of_le h.lt hb) (h.ne b rfl), ⟨q.set j x, by simp, ?_⟩, h.lt, h.ne⟩
  show World.ownsRow _ G 5 1 _ (q.set j x).length ((q.set j x).map bv)
  rw [List.length_set, List.map_set]
  exact h1
theorem make_given (w : World) (m : Nat) (hm : m ≤ 3000) : ∃ W, (Instr.makeSlice 22 (.int .i64 0) (.int .i64 ((m : Int) + 9))).run Tryd.prog w = .ok (.slice (some ⟨w.heap.size, 0, none⟩) 0 (m + 9)) W ∧ OwnB W w.heap.size (.slice (some ⟨w.heap.size, 0, none⟩) 0 (m + 9)) [] ∧ Below w.heap.size w W := by
  obtain ⟨i, hi, h0, hsz, hby⟩ := info5
  obtain ⟨W, h1, h2, h3⟩ := run_make_own (P := Tryd.prog) w w.heap.size 22 5 i (.int .u8 0) 1 Tryd.underlying22 hi h0 hsz .i64 .i64 (m + 9) (by rw [hby]; omega) (by simp only [maxLen]; omega) (Nat.le_refl _)
  exact ⟨W, h1, h2, (Below.refl _ _).grown h3 (Nat.le_refl _) (fun k hk => by cases hk)⟩
theorem flat_succ (L : List (List UInt8)) (k : Nat) (h : k < L.length) : (L.take (k + 1)).flatten = (L.take k).flatten ++ L.getD k [] := by
  rw [List.take_succ_eq_append_getElem h, List.flatten_append]
  simp [List.getD_eq_getElem?_getD, h]
theorem over_start {w : World} {g : Nat} {u v5 v7 : Value} {l p : List UInt8} {wr w5 w6 w7 : World} (HT : Told w g u l wr) (hB5 : Below wr.heap.size wr w5) (hO5 : OwnB w5 wr.heap.size v5 p) (hG6 : w5.grownBy w6 (some g))
    (hH6 : HashAt w6 g (feed hs0 (l ++ p))) (hO7 : OwnB w7 (g + 1) v7 (l ++ p)) (hg7 : w6.grownBy w7 u.ownBlock) (hw7 : v7.ownBlock = u.ownBlock ∨ v7.ownBlock = some w6.heap.size) : Over w g v7 (l ++ p) wr.heap.size v5 p.length w7 := by
  have T5 := HT.on hB5
  have hgl := HT.gl
  have O6 : OwnB w6 wr.heap.size v5 p := hO5.grown hG6 hgl
  have R6 : Ready w6 := T5.r.grown hG6 T5.g1
  have L6 : Below w.heap.size w w6 := T5.bel.grown hG6 T5.bel.size (fun _ e => by cases e; exact T5.gw)
  have hfr : ∀ j, u.ownBlock = some j → g + 1 ≤ j := fun j hj => HT.o.fresh j hj
  have hold : ∀ j, u.ownBlock = some j → j < wr.heap.size := fun j hj => (World.ownsRow.lt HT.o j hj).2
  have hnew : ∀ j, v5.ownBlock = some j → wr.heap.size ≤ j ∧ j < w6.heap.size := fun j hj => World.ownsRow.lt O6 j hj
  refine ⟨⟨hH6.kept hg7 (Nat.lt_succ_self g) hfr, R6.kept hg7 (B := g + 1) (by have := T5.g1; omega) hfr, hO7, L6.grown hg7 L6.size (fun j hj => by have := hfr j hj; have := HT.gw; omega),
    by have := hg7.size; have := hG6.size; have := hB5.size; omega, HT.gw, HT.g1⟩, ⟨p, rfl, O6.kept hg7 ?_⟩, hgl, ?_⟩
  · cases hv : v5.ownBlock with
    | none => exact Or.inl rfl
    | some j =>
      refine Or.inr fun e => ?_
      have h1 := hnew j hv
      have h2 := hold j e.symm
      omega
  · intro j hj e
    have h1 := hnew j hj
    rcases hw7 with h | h
    · rw [h] at e
      have h2 := hold j e
      omega
    · rw [h] at e
      cases e
      omega
theorem over_sum {w : World} {g : Nat} {v u : Value} {m q : List UInt8} {w8 w11 : World} (T8 : Told w g v m w8) (T11 : Told w g v m w11) (hO : OwnB w11 w8.heap.size u q) : Over w g v m w8.heap.size u q.length w11 :=
  ⟨T11, ⟨q, rfl, hO⟩, T8.gl, fun j hj e => by
    have h1 := (World.ownsRow.lt hO j hj).1
    have h2 := (World.ownsRow.lt T8.o j e).2
    omega⟩
set_option maxRecDepth 100000 in
set_option maxHeartbeats 4000000 in
theorem pieces_any (w : World) (hr : Ready w) (sp : Option Addr) (cap : Nat) (L : List (List UInt8)) (hp : PiecesAt w sp L) :
    Calls Tryd.prog 4 #[.slice sp L.length cap] w fun e w' => e = .returned (.bool true) ∧ Below w.heap.size w w' := by
  have Hr := hide hr
  have HP := hide hp
  clear hr hp
  by_cases h1 : 100 < L.length
  · have d1 : (100 : Int) < (L.length : Int) := by omega
    go_enter Tryd.func4, Tryd.ntmps4
    go_wp2_with fail
    refine (anchor_any w (unhide Hr)).mono ?_
    rintro e w1 ⟨rfl, hb1⟩
    go_wp2_with fail
    go_ret
    exact ⟨rfl, hb1⟩
  have d1 : decide ((100 : Int) < (L.length : Int)) = false := by simp; omega
  have hn : L.length ≤ 100 := by omega
  go_enter Tryd.func4, Tryd.ntmps4
  go_wp2_with fail
  refine (anchor_any w (unhide Hr)).mono ?_
  rintro e w1 ⟨rfl, hb1⟩
  have Hr1 := hide ((unhide Hr).below hb1)
  have Hb1 := hide hb1
  clear hb1
  go_wp2_with fail
  refine (new_any w1 (unhide Hr1).1).mono ?_
  rintro e w2 ⟨rfl, hw2⟩
  have T2 : Told w w1.heap.size (.slice none 0 0) [] w2 := by
    rw [hw2]
    have hb2 : Below w1.heap.size w1 (w1.alloc (.cells (hcells hs0).toArray 47)) := (Below.refl _ _).alloc (Nat.le_refl _) _
    exact ⟨heap_alloc_new _ _, (unhide Hr1).below hb2, ⟨rfl, Or.inl ⟨rfl, rfl⟩⟩, (unhide Hb1).trans (hb2.mono (unhide Hb1).size), by simp, (unhide Hb1).size, (unhide Hr1).lt⟩
  have HT2 := hide T2
  clear hw2 Hr1 Hb1 T2
  generalize w1.heap.size = g at HT2 ⊢
  go_wp2
  go_loopw [4, 21] (fun v i wr => ∃ k : Nat, k ≤ L.length ∧ i = .int .i64 k ∧ Told w g v (L.take k).flatten wr ∧ (L.take k).flatten.length ≤ 3000) (fun _ i _ => L.length - (intOf i).toNat)
  case atStart => exact ⟨0, by omega, rfl, unhide HT2, by simp⟩
  case round =>
    obtain ⟨k, hk, rfl, hT, hl3⟩ := hrel
    clear HT2
    by_cases hlt : k < L.length
    · have hfl := flat_succ L k hlt
      obtain ⟨b, o, s, c, rfl, hcell, hbytes, hpm⟩ := (unhide HP).below hT.bel k hlt
      have hbytes0 : BytesAt w (.slice s (L.getD k []).length c) (L.getD k []) := by
        obtain ⟨b', o', s', c', e1, h2, h3, _⟩ := (unhide HP) k hlt
        cases e1
        rw [hT.bel.cell (World.block_lt_of_cell? w _ h2), h2] at hcell
        have e2 := Option.some.inj hcell
        simp only [Value.slice.injEq, true_and] at e2
        obtain ⟨rfl, rfl⟩ := e2
        exact h3
      generalize hq : L.getD k [] = p at hfl hcell hbytes hbytes0 hpm
      generalize (L.take k).flatten = l at hT hl3 hfl
      obtain ⟨sp', c', rfl⟩ := hT.o.form
      have HT := hide hT
      have Hp0 := hide hbytes0
      have Hfl := hide hfl
      have k0 : (0 : Int) ≤ (k : Int) := by omega
      have k1 : (k : Int) < (L.length : Int) := by omega
      have q0 : (0 : Int) ≤ (l.length : Int) := by omega
      have q1 : (l.length : Int) ≤ 3000 := by omega
      have q2 : (0 : Int) ≤ (p.length : Int) := by omega
      have q3 : (p.length : Int) ≤ 140737488351232 := by omega
      clear hT hbytes0 hfl hq
      by_cases hbig : 3000 < l.length + p.length
      · have d2 : (3000 : Int) < (l.length : Int) + (p.length : Int) := by omega
        go_wp2
        go_ret
        exact ⟨rfl, (unhide HT).bel⟩
      · have hpl : p.length ≤ 3000 := by omega
        have d2 : decide ((3000 : Int) < (l.length : Int) + (p.length : Int)) = false := by simp; omega
        have hfo := feed_ok hs0 l hs0_ok
        have hft := feed_told hs0 l
        have z3 : hs0.told = 0 := rfl
        have hgl := (unhide HT).gl
        obtain ⟨W3, hmk, hO3, hb3⟩ := make_given wr p.length hpl
        have Hp3 := hide ((unhide Hp0).below ((unhide HT).bel.trans (hb3.mono (unhide HT).bel.size)))
        have HO3 := hide hO3
        have Hb3 := hide hb3
        have Hfo := hide hfo
        have Hft := hide hft
        clear hO3 hb3 hbytes hfo hft
        go_wp2_with (at_builtin; refine wpList_append_where rfl _ _ rfl wr.heap.size (.slice (some ⟨wr.heap.size, 0, none⟩) 0 (p.length + 9)) (.slice s p.length c) [] p rfl (unhide HO3) rfl (unhide Hp3) (unhide Hb3).size (by simp; omega) ?_; intro v5 w5 hO5 hg5 hw5)
        rw [List.nil_append] at hO5
        obtain ⟨sp5, c5, rfl⟩ := hO5.form
        have hB5 : Below wr.heap.size wr w5 := (unhide Hb3).grown hg5 (unhide Hb3).size (fun j hj => by cases hj; exact Nat.le_refl _)
        have T5 := (unhide HT).on hB5
        refine (write_val g T5.g1 (feed hs0 l) (unhide Hfo) w5 T5.h T5.r.2 _ p hO5.bytes (fun _ e => by have := hO5.fresh g e; omega) (by have := unhide Hft; omega)).mono ?_
        rintro e w6 ⟨rfl, hH6, hG6⟩
        rw [← feed_append] at hH6
        have L6 : Below w.heap.size w w6 := T5.bel.grown hG6 T5.bel.size (fun _ e => by cases e; exact T5.gw)
        have HA6 := hide (T5.o.grown hG6 (Nat.lt_succ_self g))
        have Hp6 := hide ((unhide Hp0).below L6)
        have hgs : g + 1 ≤ w6.heap.size := by have := hG6.size; have := T5.gl; omega
        have HB5 := hide hB5
        have HO5 := hide hO5
        have HG6 := hide hG6
        have HH6 := hide hH6
        clear T5 hB5 hO5 hG6 hH6 hg5 hw5 L6 hmk HO3 Hb3 Hp3 Hfo Hft
        go_wp2_with (at_builtin; refine wpList_append_where rfl _ _ rfl (g + 1) (.slice sp' l.length c') (.slice s p.length c) l p rfl (unhide HA6) rfl (unhide Hp6) hgs (by omega) ?_; intro v7 w7 hO7 hg7 hw7)
        have hOv := over_start (unhide HT) (unhide HB5) (unhide HO5) (unhide HG6) (unhide HH6) hO7 hg7 hw7
        obtain ⟨sp7, c7, rfl⟩ := hOv.t.o.form
        have hml : (l ++ p).length ≤ 3000 := by rw [List.length_append]; omega
        generalize l ++ p = m at hOv hml Hfl ⊢
        generalize wr.heap.size = G at hOv
        have HOv := hide hOv
        clear hOv hO7 hg7 hw7 HT Hp0 HA6 Hp6 HB5 HO5 HG6 HH6 hgs hgl hcell
        go_wp2
        go_loopw [45] (fun i wr2 => ∃ j : Nat, j ≤ p.length ∧ i = .int .i64 j ∧ Over w g (.slice sp7 m.length c7) m G (.slice sp5 p.length c5) p.length wr2) (fun i _ => p.length - (intOf i).toNat)
        case atStart => exact ⟨0, by omega, rfl, unhide HOv⟩
        case round =>
          obtain ⟨j, hj, rfl, hOv⟩ := hrel
          clear HOv
          by_cases hjl : j < p.length
          · obtain ⟨_, _, e5, hb5⟩ := hOv.form
            cases e5
            obtain ⟨b5, rfl⟩ := hb5 (by omega)
            obtain ⟨q, hc5, hf5⟩ := hOv.cell j hjl
            have hx : bits .xor .u8 (ib q) 255 = ib (q ^^^ 255) := ib_xor q 255
            have HS := hide (hOv.store j (q ^^^ 255))
            have j0 : (0 : Int) ≤ (j : Int) := by omega
            have j1 : (j : Int) < (p.length : Int) := by omega
            clear hOv hb5
            go_wp2
            go_roundw
            case rel =>
              first
                | exact ⟨j + 1, by omega, by go_num, unhide HS⟩
                | ((repeat apply Exists.intro); exact ⟨⟨j + 1, by omega, by go_num, unhide HS⟩, rfl⟩)
            case measure => simp [intOf]; omega
          · have T8 := hOv.t
            have HT8 := hide T8
            have hfo := feed_ok hs0 m hs0_ok
            have hft := feed_told hs0 m
            have z3 : hs0.told = 0 := rfl
            have hft' : (feed hs0 m).told = m.length := by rw [hft, z3, Nat.zero_add]
            have Hfo := hide hfo
            have Hft := hide hft'
            clear hOv T8 hfo hft hft' z3
            go_wp2_with fail
            refine (hsum_any g (feed hs0 m) (unhide Hfo) wr (unhide HT8).r.lt (unhide HT8).h (unhide HT8).r.2 (by rw [unhide Hft]; omega)).mono ?_
            rintro e w9 ⟨v9, rfl, hO9', hb9⟩
            have hO9 : OwnB w9 wr.heap.size v9 (shaOf m) := hO9'
            obtain ⟨sp9, c9, rfl⟩ := hO9.form
            rw [length_shaOf] at hO9 ⊢
            have HT9 := hide ((unhide HT8).on hb9)
            have HO9 := hide hO9
            clear hO9' hO9 hb9
            go_wp2_with fail
            refine (refSum_any w9 sp7 c7 m (unhide HT9).o.bytes (by omega)).mono ?_
            rintro e w10 ⟨v10, rfl, hO10, hb10⟩
            have HT10 := hide ((unhide HT9).on hb10)
            have HO10 := hide ((unhide HO9).below hb10)
            have HB10 := hide hO10.bytes
            clear hO10 hb10 HT9 HO9
            go_wp2_with fail
            refine (same_eq w10 _ v10 (shaOf m) (unhide HO10).bytes (unhide HB10) (by rw [length_shaOf]; omega)).mono ?_
            rintro e w11 ⟨rfl, hb11⟩
            have HT11 := hide ((unhide HT10).on hb11)
            have HO11 := hide ((unhide HO10).below hb11)
            clear hb11 HT10 HO10 HB10
            go_wp2_with fail
            refine (len_any g (feed hs0 m) (unhide Hfo) w11 (unhide HT11).h).mono ?_
            rw [unhide Hft]
            rintro e w12 ⟨rfl, rfl⟩
            have hOv := over_sum (unhide HT8) (unhide HT11) (unhide HO11)
            rw [length_shaOf] at hOv
            generalize wr.heap.size = G9 at hOv
            have HOv := hide hOv
            clear HT8 HT11 HO11 hOv
            go_wp2
            go_loopw [71] (fun i wr3 => ∃ j : Nat, j ≤ 32 ∧ i = .int .i64 j ∧ Over w g (.slice sp7 m.length c7) m G9 (.slice sp9 32 c9) 32 wr3) (fun i _ => 32 - (intOf i).toNat)
            case atStart => exact ⟨0, by omega, rfl, unhide HOv⟩
            case round =>
              obtain ⟨i, hi, rfl, hOv⟩ := hrel
              clear HOv
              by_cases hil : i < 32
              · obtain ⟨_, _, e9, hb9⟩ := hOv.form
                cases e9
                obtain ⟨b9, rfl⟩ := hb9 (by omega)
                obtain ⟨q, hc9, hf9⟩ := hOv.cell i hil
                have hS : Over w g (.slice sp7 m.length c7) m G9 (.slice (some ⟨b9, 0, none⟩) 32 c9) 32 (wr.setCell ⟨b9, i, none⟩ (.int .u8 7)) := hOv.store i 7
                have HS := hide hS
                have i0 : (0 : Int) ≤ (i : Int) := by omega
                have i1 : (i : Int) < 32 := by omega
                clear hOv hb9 hS
                go_wp2
                go_roundw
                case rel =>
                  first
                    | exact ⟨i + 1, by omega, by go_num, unhide HS⟩
                    | ((repeat apply Exists.intro); exact ⟨⟨i + 1, by omega, by go_num, unhide HS⟩, rfl⟩)
                case measure => simp [intOf]; omega
              · have hT := hOv.t
                clear hOv
                go_wp2
                go_roundw
                case rel =>
                  have hr : Told w g (.slice sp7 m.length c7) (L.take (k + 1)).flatten wr ∧ (L.take (k + 1)).flatten.length ≤ 3000 := by rw [unhide Hfl]; exact ⟨hT, hml⟩
                  first
                    | exact ⟨k + 1, by omega, by go_num, hr⟩
                    | ((repeat apply Exists.intro); exact ⟨⟨k + 1, by omega, by go_num, hr⟩, rfl⟩)
                case measure => simp [intOf]; omega
    · obtain rfl : k = L.length := by omega
      have hfo := feed_ok hs0 (L.take L.length).flatten hs0_ok
      have hft := feed_told hs0 (L.take L.length).flatten
      have z3 : hs0.told = 0 := rfl
      have hft' : (feed hs0 (L.take L.length).flatten).told = (L.take L.length).flatten.length := by rw [hft, z3, Nat.zero_add]
      generalize (L.take L.length).flatten = m at hT hl3 hfo hft'
      obtain ⟨sp', c', rfl⟩ := hT.o.form
      have HT := hide hT
      have Hfo := hide hfo
      have Hft := hide hft'
      clear hT hfo hft hft' z3
      go_wp2_with fail
      refine (hsum_any g (feed hs0 m) (unhide Hfo) wr (unhide HT).r.lt (unhide HT).h (unhide HT).r.2 (by rw [unhide Hft]; omega)).mono ?_
      rintro e w4 ⟨v4, rfl, hO4, hb4⟩
      have HT4 := hide ((unhide HT).on hb4)
      have HB4 := hide (show BytesAt w4 v4 (shaOf m) from hO4.bytes)
      clear hO4 hb4 HT
      go_wp2_with fail
      refine (refSum_any w4 sp' c' m (unhide HT4).o.bytes (by omega)).mono ?_
      rintro e w5 ⟨v5, rfl, hO5, hb5⟩
      have HT5 := hide ((unhide HT4).on hb5)
      have HB5 := hide ((unhide HB4).below hb5)
      have HC5 := hide hO5.bytes
      clear hO5 hb5 HT4 HB4
      go_wp2_with fail
      refine (same_eq w5 v4 v5 (shaOf m) (unhide HB5) (unhide HC5) (by rw [length_shaOf]; omega)).mono ?_
      rintro e w6 ⟨rfl, hb6⟩
      have L6 := hide ((unhide HT5).on hb6).bel
      clear hb6 HT5 HB5 HC5
      go_wp2_with fail
      go_ret
      exact ⟨rfl, unhide L6⟩
end Go.Proofs.YtodcpcdhkghgnaaDoor
