/-
  The methods of the landed feed (i).
-/
import Derived.Test.YtbblhogdfdpipaaFf17
import Derived.Test.YtbblhogdfdpipaaBx17i
namespace Go.Proofs.Ytbblhogdfdpipaa
open Go.Conc Go.RowKit Go.MapKept
theorem built_feedi (m : Nat) : Try.prog.built 48 [(0, .map (some m))] = some #[.map (some m), .int .i64 0] := by kernel_rfl
theorem mk_mapi (w : World) : (Instr.makeMap 46 none).run Try.prog w = .ok (.map (some w.heap.size)) (w.alloc (.map #[] 0)) := by
  simp [Instr.makeMap, go_sem]
set_option maxRecDepth 100000 in
theorem newi_c (w : World) : Calls Try.prog 7 #[] w fun e w' => ∃ p, e = .returned p ∧ FeedAt KI (fun k => w.heap.size ≤ k ∧ k < w'.heap.size) w' p [] ∧ Below w.heap.size w w' := by
  have hmk := mk_mapi w
  have hbu := built_feedi w.heap.size
  go_enter Try.func7, Try.ntmps7
  go_wp2
  go_ret
  refine ⟨_, rfl, ⟨w.heap.size + 1, w.heap.size, fun _ => 0, fun _ => 0, rfl, ?_⟩, ((Below.refl _ _).alloc (Nat.le_refl _) _).alloc (by simp) _⟩
  refine ⟨?_, ?_, fun n b hn => ?_, fun m n hm => ?_, fun m n hm => ?_, ⟨by omega, by simp⟩, ⟨Nat.le_refl _, by simp; omega⟩, fun k hk => hk.2⟩
  · have := heap_alloc_new (w.alloc (.map #[] 0)) (.cells #[.map (some w.heap.size), .int .i64 0] 48)
    rw [World.size_alloc] at this
    exact this
  · refine ((IMAt.made w).aside (S := none_) (Aside.of_below ((Below.refl _ _).alloc (Nat.le_refl _) _)) fun h => h).congr fun k => ?_
    rw [rd_out (by simp; omega)]; rfl
  · rw [rd_out (by simp; omega)] at hn; cases hn
  · rw [rd_out (by simp; omega)] at hm; exact absurd rfl hm
  · rw [rd_out (by simp; omega)] at hm; exact absurd rfl hm
theorem len_chi {w : World} {c cap s r : Nat} {buf : Array Value} {cl : Bool} (hc : w.heap[c]? = some (.chan cap buf cl s r false)) (ty : TypeId) : (Builtin.len_ #[55] ty #[.chan (some c)]).run Try.prog w = .ok (.int .i64 (buf.size : Int)) w := run_len_chan 55 ty Try.underlying55 hc
set_option maxRecDepth 100000 in
theorem waitsi_c {X : Set_} {w : World} {p : Value} {R : Rs Int} (h : FeedAt KI X w p R) (n : Int) : Calls Try.prog 12 #[p, .int .i64 n] w fun e w' => e = .returned (.int .i64 (waitsN R n : Int)) ∧ w' = w := by
  obtain ⟨P, bm, Q, C, rfl, h⟩ := h
  have k0 := h.f0
  have hlk := h.map.look mapT_i n
  cases hr : rd R n with
  | none =>
    rw [hr] at hlk
    simp only [Option.map_none, Option.getD_none, Option.isSome_none] at hlk
    have hw : waitsN R n = 0 := by unfold waitsN; rw [hr]
    rw [hw]
    clear h hr hw
    go_enter Try.func12, Try.ntmps12
    simp only [pt]
    go_wp2
    go_ret
    exact ⟨rfl, rfl⟩
  | some b =>
    have hb := h.box n b hr
    rw [hr] at hlk
    simp only [Option.map_some, Option.getD_some, Option.isSome_some] at hlk
    have hw : waitsN R n = b.list.length := by unfold waitsN; rw [hr]
    obtain ⟨buf, s, r, hc, hI⟩ := hb.ch
    have j0 := hb.k0
    have hlen := len_chi hc 3
    have hbl : buf.size = b.list.length := by rw [← hI.len]; simp
    rw [hw, ← hbl]
    simp only [pt] at hlk
    clear h hr hw hb hI hc hbl
    go_enter Try.func12, Try.ntmps12
    simp only [pt]
    go_wp2
    go_ret
    exact ⟨rfl, rfl⟩
set_option maxRecDepth 100000 in
theorem losti_c {X : Set_} {w : World} {p : Value} {R : Rs Int} (h : FeedAt KI X w p R) (n : Int) : Calls Try.prog 13 #[p, .int .i64 n] w fun e w' => e = .returned (.int .i64 (lostN R n : Int)) ∧ w' = w := by
  obtain ⟨P, bm, Q, C, rfl, h⟩ := h
  have k0 := h.f0
  have hlk := h.map.look mapT_i n
  cases hr : rd R n with
  | none =>
    rw [hr] at hlk
    simp only [Option.map_none, Option.getD_none, Option.isSome_none] at hlk
    have hw : lostN R n = 0 := by unfold lostN; rw [hr]
    rw [hw]
    clear h hr hw
    go_enter Try.func13, Try.ntmps13
    simp only [pt]
    go_wp2
    go_ret
    exact ⟨rfl, rfl⟩
  | some b =>
    have hb := h.box n b hr
    rw [hr] at hlk
    simp only [Option.map_some, Option.getD_some, Option.isSome_some] at hlk
    have hw : lostN R n = b.lost := by unfold lostN; rw [hr]
    have j1 := hb.k1
    rw [hw]
    simp only [pt] at hlk
    clear h hr hw hb
    go_enter Try.func13, Try.ntmps13
    simp only [pt]
    go_wp2
    go_ret
    exact ⟨rfl, rfl⟩
/-- What Take answers. -/
def tkVi (o : Option Int) : Value := match o with
  | some x => .tuple #[KI.val x, .bool true]
  | none => .tuple #[.int .i64 0, .bool false]
set_option maxRecDepth 100000 in
theorem takei_c {X : Set_} {w : World} {p : Value} {R : Rs Int} (h : FeedAt KI X w p R) (n : Int) : Calls Try.prog 11 #[p, .int .i64 n] w fun e w' => e = .returned (tkVi (takeV R n)) ∧ FeedAt KI X w' p (takeR R n) ∧ Aside X w w' := by
  obtain ⟨P, bm, Q, C, rfl, h⟩ := h
  have k0 := h.f0
  have hlk := h.map.look mapT_i n
  cases hr : rd R n with
  | none =>
    have hv : takeV R n = none := by unfold takeV; rw [hr]
    have ht : takeR R n = R := by unfold takeR; rw [hr]
    have hF : Hid (FeedAt KI X w (pt P) R) := hide ⟨P, bm, Q, C, rfl, h⟩
    rw [hr] at hlk
    simp only [Option.map_none, Option.getD_none, Option.isSome_none] at hlk
    rw [hv, ht]
    clear h hr hv ht
    go_enter Try.func11, Try.ntmps11
    simp only [pt]
    go_wp2
    go_ret2
    exact ⟨rfl, unhide hF, Aside.refl _ _⟩
  | some b =>
    have hb := h.box n b hr
    rw [hr] at hlk
    simp only [Option.map_some, Option.getD_some, Option.isSome_some] at hlk
    have hv : takeV R n = b.list.head? := by unfold takeV; rw [hr]
    have ht : takeR R n = setR R n (some b.pop) := by unfold takeR; rw [hr]
    rw [hv]
    simp only [pt] at hlk
    cases hl : b.list with
    | nil =>
      have hc := hide (tki_none hb hl)
      have hF : Hid (FeedAt KI X w (pt P) (takeR R n)) := hide (by rw [take_same hr hl]; exact ⟨P, bm, Q, C, rfl, h⟩)
      clear h hr hv ht hb hl
      go_enter Try.func11, Try.ntmps11
      simp only [pt] at hc ⊢
      go_wp2_with (go_at_call 22; refine (unhide hc).mono ?_; rintro e w2 ⟨rfl, rfl⟩)
      go_ret2
      exact ⟨rfl, unhide hF, Aside.refl _ _⟩
    | cons x l =>
      have hc := hide (tki_some hb hl)
      have hT := hide (fun (w' : World) (h2 : BoxAt KI X w' (Q n.toNat) (C n.toNat) b.pop) (ha : Aside (two_ (Q n.toNat) (C n.toNat)) w w') => h.turned plain_i hr ha h2 (R' := takeR R n) (by rw [ht, len_set]) (by rw [ht, live_some hr]) (by intro m; rw [ht, rd_set hr]))
      have hX : Hid (X (Q n.toNat) ∧ X (C n.toNat)) := hide ⟨hb.xq, hb.xc⟩
      rw [List.head?_cons]
      have hval : KI.val x = .int .i64 x := rfl
      clear h hr hv ht hb hl
      go_enter Try.func11, Try.ntmps11
      simp only [pt, hval] at hc ⊢
      go_wp2_with (go_at_call 22; refine (unhide hc).mono ?_
                   rintro e w2 ⟨rfl, h2, ha, hsz⟩
                   have H2 := hide h2
                   have HA := hide ha
                   clear h2 ha hsz)
      go_ret2
      refine ⟨rfl, ⟨P, bm, Q, C, rfl, unhide hT _ (unhide H2) (unhide HA)⟩, (unhide HA).mono ?_⟩
      rintro k _ (rfl | rfl)
      · exact (unhide hX).1
      · exact (unhide hX).2
set_option maxRecDepth 100000 in
theorem leavei_c {X : Set_} {w : World} {p : Value} {R : Rs Int} (h : FeedAt KI X w p R) (n : Int) : Calls Try.prog 9 #[p, .int .i64 n] w fun e w' => e = .returned (.bool (rd R n).isSome) ∧ FeedAt KI X w' p (leaveR R n) ∧ Aside X w w' := by
  obtain ⟨P, bm, Q, C, rfl, h⟩ := h
  have k0 := h.f0
  have hlk := h.map.look mapT_i n
  obtain ⟨w2, hrun, hm2, hg2, hsz2⟩ := h.map.drop mapT_i n 0
  simp only [Option.isSome_map] at hm2
  have hend : FeedC KI X w2 P bm Q C (leaveR R n) := by
    have ha := grown_aside hg2
    unfold leaveR
    cases hr : rd R n with
    | none =>
      rw [if_neg (by simp)]
      rw [hr, if_neg (by simp)] at hm2
      refine ⟨?_, hm2.congr fun k => ?_, fun m b hm => h.boxes nomap_i (ha.mono fun k _ e => Or.inr e) hm, h.qq, h.cc, h.xp, h.xm, fun k hk => Nat.lt_of_lt_of_le (h.old k hk) ha.size⟩
      · unfold RowAt
        rw [ha.block P h.blk.lt h.pm]; exact h.blk
      · unfold updI
        split
        · rename_i e
          rw [e, hr]; rfl
        · rfl
    | some b =>
      rw [if_pos (by simp)]
      rw [hr, if_pos (by simp)] at hm2
      exact h.left nomap_i hr ha hm2
  have HE := hide hend
  have HA : Hid (Aside X w w2) := hide ((grown_aside hg2).mono fun k _ e => e ▸ h.xm)
  have hsome : ((rd R n).map fun _ => pt (Q n.toNat)).isSome = (rd R n).isSome := Option.isSome_map
  rw [hsome] at hlk
  obtain ⟨o1, e1⟩ : ∃ y, ((rd R n).map fun _ => pt (Q n.toNat)).getD (.pointer none) = y := ⟨_, rfl⟩
  obtain ⟨o2, e2⟩ : ∃ y, (rd R n).isSome = y := ⟨_, rfl⟩
  rw [e1, e2] at hlk
  rw [e2]
  clear h hm2 hg2 hend hsome e1 e2 hsz2
  go_enter Try.func9, Try.ntmps9
  simp only [pt]
  go_wp2
  go_ret
  exact ⟨rfl, ⟨P, bm, Q, C, rfl, unhide HE⟩, unhide HA⟩
end Go.Proofs.Ytbblhogdfdpipaa
