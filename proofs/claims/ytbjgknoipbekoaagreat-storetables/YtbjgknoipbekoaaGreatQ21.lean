/-
  Texts of bytes and bytes of texts; the walk of the landed store's pairs.do.
  The walk of the landed store's inBytes.
-/
import Derived.Test.YtbjgknoipbekoaaGreatQ20
import Derived.Test.YtbjgknoipbekoaaGreatQ3
import Derived.Laws.BytesString
import Derived.Laws.IdiomStrings
import Derived.Test.YtbjgknoipbekoaaGreatQ19
namespace Go.Proofs.YtbjgknoipbekoaaGreat
open Go.RowKit Go.MapKept
/-- string(b). -/
theorem conv_str {w : World} {x : Value} {l : Bs} (h : BytesAt w x l) : (convert 23 9 x).run Tryz.prog w = .ok (.string ⟨l.toArray⟩) w := by
  obtain ⟨sp, c, rfl, _, hn, hc⟩ := bytes_open h
  by_cases hl : l = []
  · subst hl
    cases sp with
    | none =>
      rw [run_convert_bytes_string w 23 9 5 none _ _ Tryz.underlying23 Tryz.underlying5 Tryz.underlying9]
      simp [Conv.bytesToString]
      rfl
    | some a => exact run_convert_bytes_back w 23 9 5 a c [] Tryz.underlying23 Tryz.underlying5 Tryz.underlying9 (fun j hj => by simp at hj)
  · obtain ⟨b, o, rfl, _, hcell⟩ := hc hl
    refine run_convert_bytes_back w 23 9 5 ⟨b, o, none⟩ c l Tryz.underlying23 Tryz.underlying5 Tryz.underlying9 (fun j hj => ?_)
    have := hcell j hj
    rw [List.getD_eq_getElem?_getD, List.getElem?_eq_getElem hj, Option.getD_some] at this
    have e : (⟨b, o, none⟩ : Addr).add j = ⟨b, o + j, none⟩ := by unfold Addr.add; split <;> simp_all
    rw [e]
    exact this
/-- The map behind changes, as a function. -/
def doF (f : Bs → Option Bs) (l : List Ch) : Bs → Option Bs := l.foldl (fun f c => updS f c.key (if c.gone = true then none else some c.val)) f
theorem do_last : ∀ (l : List Ch) (f : Bs → Option Bs) (k : Bs), doF f l k = lastP k (f k) l
  | [], _, _ => rfl
  | c :: l, f, k => by
    show doF (updS f c.key (if c.gone = true then none else some c.val)) l k = lastP k (if k = c.key then (if c.gone = true then none else some c.val) else f k) l
    rw [do_last l]
    unfold updS
    rfl
theorem do_with {ps : List (Bs × Bs)} (h : SortedP ps) (l : List Ch) (k : Bs) : doF (getP ps) l k = getP (withP ps l) k := by rw [do_last, with_get k l ps h]
theorem do_take {f : Bs → Option Bs} {l : List Ch} {i : Nat} {c : Ch} (h : l[i]? = some c) : doF f (l.take (i + 1)) = updS (doF f (l.take i)) c.key (if c.gone = true then none else some c.val) := by
  rw [List.take_add_one, h]
  unfold doF
  rw [List.foldl_append]
  rfl
set_option maxRecDepth 100000 in
set_option maxHeartbeats 4000000 in
theorem pdo_c {K V : Set_} {w : World} {B : Nat} {f : Bs → Option Bs} {x : Value} {l : List Ch} (hm : SMAt V w B f) (hx : ChsAt K w x l) (hl : l.length ≤ 1000000) (hK : ∀ k, K k → k ≠ B) (hVB : ¬ V B) (hr : ∀ c ∈ l, c.gone = false → c.val.length ≤ 1000000) :
    Calls Tryz.prog 49 #[.map (some B), x] w fun e w' => e = .returned (.tuple #[]) ∧ SMAt (fun k => V k ∨ w.heap.size ≤ k) w' B (doF f l) ∧ Aside (fun k => k = B) w w' := by
  obtain ⟨sp, c, rfl, _⟩ := hx.form
  have hBl := hm.lt
  obtain ⟨V', hV'⟩ : ∃ y : Set_, (fun k => V k ∨ w.heap.size ≤ k) = y := ⟨_, rfl⟩
  have HVn : Hid (∀ k, w.heap.size ≤ k → V' k) := fun k hk => by rw [← hV']; exact Or.inr hk
  have HVB : Hid (¬ V' B) := by show ¬ V' B; rw [← hV']; intro h; rcases h with h | h; exact hVB h; omega
  have HM0 : Hid (SMAt V' w B f) := by rw [← hV']; exact hm.mono fun k hk => Or.inl hk
  rw [hV']
  obtain ⟨n, hn⟩ : ∃ n, l.length = n := ⟨_, rfl⟩
  rw [hn] at hx hl ⊢
  have H := hide hx
  have HN := hide hn
  have HK := hide hK
  have HRv := hide hr
  have HBL := hide hBl
  obtain ⟨ANS, hA⟩ : ∃ y, doF f l = y := ⟨_, rfl⟩
  rw [hA]
  have HA := hide hA
  clear hm hx hn hK hr hBl hA hV' hVB
  go_enter Tryz.func49, Tryz.ntmps49
  go_wp2
  go_loopw [8] (fun ii wr => ∃ i : Nat, i ≤ n ∧ ii = .int .i64 (i : Int) ∧ Hid (SMAt V' wr B (doF f (l.take i))) ∧ Hid (Aside (fun k => k = B) w wr)) (fun ii _ => n - (intOf ii).toNat)
  case atStart => exact ⟨0, by omega, rfl, unhide HM0, Aside.refl _ _⟩
  case round =>
    clear HM0
    obtain ⟨i, hi, rfl, HM, HAs⟩ := hrel
    by_cases hlt : i < n
    · obtain ⟨ch, g, o, s1, c1, s2, c2, hop, rfl, hKg, hgl, h3⟩ := ((unhide H).aside (unhide HAs) (fun k hk hKk => unhide HK k hKk hk)).one (i := i) (by have := unhide HN; omega)
      have f1 : decide ((i : Int) < (n : Int)) = true := by simp; omega
      have f1n : decide (i < n) = true := by simp; omega
      have j0 : (0 : Int) ≤ (i : Int) := by omega
      have j1 : (i : Int) < (n : Int) := by omega
      have k0 := h3.c0
      have k1 := h3.c1
      have k2 := h3.c2
      have HT : Hid (doF f (l.take (i + 1)) = updS (doF f (l.take i)) ch.key (if ch.gone = true then none else some ch.val)) := do_take hop
      have HVl : Hid (ch.gone = false → ch.val.length ≤ 1000000) := unhide HRv ch (List.mem_of_getElem? hop)
      obtain ⟨KN, hKN⟩ : ∃ y, ch.key.length = y := ⟨_, rfl⟩
      obtain ⟨VN, hVN⟩ : ∃ y, ch.val.length = y := ⟨_, rfl⟩
      obtain ⟨gb, hgb⟩ : ∃ y, ch.gone = y := ⟨_, rfl⟩
      have HKey := hide h3.key.at_
      have HVal := hide h3.val.at_
      rw [hKN] at k0 HKey
      rw [hVN] at k1 HVal
      rw [hgb] at k2 HT HVl
      obtain ⟨w1, hw1⟩ : ∃ y, wr.alloc (.cells #[.slice s1 KN c1, .slice s2 VN c2, .bool gb] 72) = y := ⟨_, rfl⟩
      obtain ⟨m0, m1, m2⟩ := cells_new3 wr (.slice s1 KN c1) (.slice s2 VN c2) (.bool gb) 72
      have hb1 : Below wr.heap.size wr w1 := by rw [← hw1]; exact (Below.refl _ _).alloc (Nat.le_refl _) _
      have HM1 := hide ((unhide HM).below hb1)
      have HA1 : Hid (Aside (fun k => k = B) w w1) := (unhide HAs).trans (T := none_) (Aside.of_below hb1) fun _ _ h => h.elim
      have HKey1 := hide ((unhide HKey).below hb1)
      have HVal1 := hide ((unhide HVal).below hb1)
      rw [hw1] at m0 m1 m2
      obtain ⟨sk, hsk⟩ : ∃ y : ByteArray, (⟨ch.key.toArray⟩ : ByteArray) = y := ⟨_, rfl⟩
      have HSK : Hid (ks ch.key = .string sk) := by show _ = _; unfold ks; rw [hsk]
      have Hcv : Hid (∀ w', BytesAt w' (.slice s1 KN c1) ch.key → (convert 23 9 (.slice s1 KN c1)).run Tryz.prog w' = .ok (.string sk) w') := fun w' h => by rw [conv_str h, hsk]
      have HVN := hide hVN
      have HMw : Hid (Aside (fun k => k = B) w wr) := unhide HAs
      have HKB : Hid (ch.key ≠ [] → ∀ k, (Value.slice s1 KN c1).ownBlock = some k → ¬ k = B) := fun hne k hk hB => by rw [← hKN] at hk; exact unhide HK k (h3.key.blk hne k hk) hB
      clear h3 hop hKN hVN hgb HM HAs HKey HVal hKg hgl hb1 hsk
      go_upto_region 3 with fail
      cases gb
      · go_upto_region 5 with fail
        refine wp_region_held_drew (S := fun w' => w'.cell? ⟨wr.heap.size, 0, none⟩ = some (.slice s1 KN c1) ∧ w'.cell? ⟨wr.heap.size, 1, none⟩ = some (.slice s2 VN c2) ∧ BytesAt w' (.slice s1 KN c1) ch.key) (by kernel_rfl) (⟨m0, m1, (unhide HKey1).below (Below.refl _ _).drew⟩) (fun hHeld => ?_)
        refine wpAnyH_take (i := 0) (oi := { dst := some 18, op := Op.move (Operand.tmp 0), type := 92, pos := "pairs.go:17", after := #[], guard := none }) (v := ?_) rfl (by kernel_rfl) (by kernel_rfl) (by kernel_rfl) (fun _ _ _ h => h) (Or.inl ⟨by rfl, ?a1⟩) (by assumption) ?_
        case a1 => (intro w_ hSw; obtain ⟨p0, p1, pk⟩ := hSw; go_simp; try with_reducible rfl)
        simp only [Act.put, List.setIfInBounds_toArray, List.set_cons_zero, List.set_cons_succ]
        refine wpAnyH_take (i := 1) (oi := { dst := some 19, op := Op.fieldAddr 72 (Operand.tmp 5) 0, type := 0, pos := "pairs.go:17", after := #[], guard := none }) (v := ?_) rfl (by kernel_rfl) (by kernel_rfl) (by kernel_rfl) (fun _ _ _ h => h) (Or.inl ⟨by rfl, ?a2⟩) (by assumption) ?_
        case a2 => (intro w_ hSw; obtain ⟨p0, p1, pk⟩ := hSw; go_simp; try with_reducible rfl)
        simp only [Act.put, List.setIfInBounds_toArray, List.set_cons_zero, List.set_cons_succ]
        refine wpAnyH_take (i := 2) (oi := { dst := some 20, op := Op.load 23 (Operand.tmp 19), type := 23, pos := "pairs.go:17", after := #[{ on := 1, ground := Ground.data }], guard := none }) (v := ?_) rfl (by kernel_rfl) (by kernel_rfl) (by kernel_rfl) (fun _ _ _ h => h) (Or.inl ⟨by rfl, ?a3⟩) (by assumption) ?_
        case a3 => (intro w_ hSw; obtain ⟨p0, p1, pk⟩ := hSw; go_simp; try with_reducible rfl)
        simp only [Act.put, List.setIfInBounds_toArray, List.set_cons_zero, List.set_cons_succ]
        refine wpAnyH_take (i := 3) (oi := { dst := some 21, op := Op.convert 23 9 (Operand.tmp 20), type := 9, pos := "pairs.go:17", after := #[{ on := 2, ground := Ground.data }], guard := none }) (v := ?_) rfl (by kernel_rfl) (by kernel_rfl) (by kernel_rfl) (fun _ _ _ h => h) (Or.inl ⟨by rfl, ?a4⟩) (by assumption) ?_
        case a4 => (intro w_ hSw; obtain ⟨p0, p1, pk⟩ := hSw; have cv := unhide Hcv w_ pk; go_simp; try with_reducible rfl)
        simp only [Act.put, List.setIfInBounds_toArray, List.set_cons_zero, List.set_cons_succ]
        refine wpAnyH_take (i := 4) (oi := { dst := some 22, op := Op.fieldAddr 72 (Operand.tmp 5) 1, type := 0, pos := "pairs.go:17", after := #[], guard := none }) (v := ?_) rfl (by kernel_rfl) (by kernel_rfl) (by kernel_rfl) (fun _ _ _ h => h) (Or.inl ⟨by rfl, ?a5⟩) (by assumption) ?_
        case a5 => (intro w_ hSw; obtain ⟨p0, p1, pk⟩ := hSw; go_simp; try with_reducible rfl)
        simp only [Act.put, List.setIfInBounds_toArray, List.set_cons_zero, List.set_cons_succ]
        refine wpAnyH_take (i := 5) (oi := { dst := some 23, op := Op.load 23 (Operand.tmp 22), type := 23, pos := "pairs.go:17", after := #[{ on := 4, ground := Ground.data }], guard := none }) (v := ?_) rfl (by kernel_rfl) (by kernel_rfl) (by kernel_rfl) (fun _ _ _ h => h) (Or.inl ⟨by rfl, ?a6⟩) (by assumption) ?_
        case a6 => (intro w_ hSw; obtain ⟨p0, p1, pk⟩ := hSw; go_simp; try with_reducible rfl)
        simp only [Act.put, List.setIfInBounds_toArray, List.set_cons_zero, List.set_cons_succ]
        refine wpAnyH_ready (rs := [6]) (by kernel_rfl) (by simp) ?_
        refine AllReadyH.cons (o := { dst := some 24, op := Op.call { callee := Callee.value (Operand.func 51), args := #[Operand.tmp 23], argTypes := #[23] }, type := 23, pos := "pairs.go:17", after := #[{ on := 5, ground := Ground.data }], guard := none }) rfl (fun K_ hK_ => ?_) AllReadyH.nil
        go_simp
        go_at_call 51
        refine (bclone_c w1.drew (.slice s2 VN c2) ch.val ((unhide HVal1).below (Below.refl _ _).drew) (by have := unhide HVl rfl; omega)).mono ?_
        rintro e W4 ⟨v4, rfl, hR4⟩
        have hb4 : Below w1.heap.size w1 W4 := (Below.refl _ _).drew.trans (hR4.b.mono (Nat.le_refl _))
        obtain ⟨s4, c4, e4⟩ := hR4.own.form
        subst e4
        have HM4 := hide ((unhide HM1).below hb4)
        have HA4 : Hid (Aside (fun k => k = B) w W4) := (unhide HA1).trans (T := none_) (Aside.of_below hb4) fun _ _ h => h.elim
        have HE4 : Hid (ElS V' W4 (.slice s4 ch.val.length c4) ch.val) := ⟨hR4.bytes, fun _ k hk => unhide HVn k (Nat.le_trans (unhide HA1).size (World.ownsRow.lt hR4.own k hk).1)⟩
        have HC4 : Hid (W4.cell? ⟨wr.heap.size, 0, none⟩ = some (.slice s1 KN c1) ∧ W4.cell? ⟨wr.heap.size, 1, none⟩ = some (.slice s2 VN c2) ∧ BytesAt W4 (.slice s1 KN c1) ch.key) := ⟨cell_aside (S := none_) m0 (Aside.of_below hb4) (fun h => h), cell_aside (S := none_) m1 (Aside.of_below hb4) (fun h => h), (unhide HKey1).below hb4⟩
        have HNe : Hid (wr.heap.size ≠ B) := fun e => by have h1 := World.block_lt_of_cell? _ _ m0; have h2 := unhide HBL; have h3 := (unhide HMw).size; omega
        clear hR4 hb4
        go_simp
        refine hK_.out _ _ (unhide HC4) (fun hHeld => ?_)
        clear hK_ K_
        (try simp only [Act.put, List.setIfInBounds_toArray, List.set_cons_zero, List.set_cons_succ])
        refine wpAnyH_ready (rs := [7]) (by kernel_rfl) (by simp) ?_
        refine AllReadyH.cons (o := { dst := none, op := Op.mapUpdate 92 (Operand.tmp 18) (Operand.tmp 21) (Operand.tmp 24), type := 0, pos := "pairs.go:17", after := #[{ on := 0, ground := Ground.data }, { on := 3, ground := Ground.data }, { on := 6, ground := Ground.data }, { on := 6, ground := Ground.chain }, { on := 0, ground := Ground.phase }, { on := 1, ground := Ground.phase }, { on := 2, ground := Ground.phase }, { on := 3, ground := Ground.phase }, { on := 4, ground := Ground.phase }, { on := 5, ground := Ground.phase }, { on := 6, ground := Ground.phase }], guard := none }) rfl (fun K_ hK_ => ?_) AllReadyH.nil
        rw [if_pos (by rfl)]
        obtain ⟨W5, hru, hM5, hg5, _⟩ := (unhide HM4).update ch.key (unhide HE4) (unhide HVB)
        rw [unhide HSK] at hru
        have HM5 : Hid (SMAt V' W5 B (doF f (l.take (i + 1)))) := by show SMAt _ _ _ _; rw [unhide HT]; exact hM5
        have hA45 := grown_aside hg5
        have HA5 : Hid (Aside (fun k => k = B) w W5) := (unhide HA4).trans (T := fun k => k = B) hA45 fun _ _ h => h
        have HC5 : Hid (W5.cell? ⟨wr.heap.size, 0, none⟩ = some (.slice s1 KN c1) ∧ W5.cell? ⟨wr.heap.size, 1, none⟩ = some (.slice s2 VN c2) ∧ BytesAt W5 (.slice s1 KN c1) ch.key) := ⟨cell_aside (unhide HC4).1 hA45 (unhide HNe), cell_aside (unhide HC4).2.1 hA45 (unhide HNe), (unhide HC4).2.2.beside hA45 (unhide HKB)⟩
        clear hM5 hg5 hA45
        go_simp
        refine hK_.out _ _ (unhide HC5) (fun hHeld => ?_)
        clear hK_ K_
        (try simp only [Act.put])
        refine wpAnyH_done (by kernel_rfl) ?_ _
        go_wp2
        refine ⟨⟨i + 1, by omega, ?_, HM5, HA5⟩, ?_⟩
        · simp
        · simp [intOf]; omega
      · have cv := unhide Hcv w1 (unhide HKey1)
        obtain ⟨W2, hrd, hM2, hg2, _⟩ := (unhide HM1).drop ch.key (unhide HVB) 0
        rw [unhide HSK] at hrd
        have HM2 : Hid (SMAt V' W2 B (doF f (l.take (i + 1)))) := by show SMAt _ _ _ _; rw [unhide HT]; exact hM2
        have HA2 : Hid (Aside (fun k => k = B) w W2) := (unhide HA1).trans (T := fun k => k = B) (grown_aside hg2) fun _ _ h => h
        clear hM2 hg2 HM1 HA1
        go_wp2
        refine ⟨⟨i + 1, by omega, ?_, HM2, HA2⟩, ?_⟩
        · simp
        · simp [intOf]; omega
    · obtain rfl : i = n := by omega
      have f1 : decide ((i : Int) < (i : Int)) = false := by simp
      have HE : Hid (SMAt V' wr B ANS) := by
        have h := unhide HM
        rw [List.take_of_length_le (by have := unhide HN; omega), unhide HA] at h
        exact h
      clear HM
      go_wp2
      (try simp only [Exit.inBlock, Exit.then])
      refine bodyPost_end (results_none rfl _ _ _) rfl ?_
      exact ⟨rfl, unhide HE, unhide HAs⟩
end Go.Proofs.YtbjgknoipbekoaaGreat
namespace Go.Proofs.YtbjgknoipbekoaaGreat
open Go.RowKit
theorem big_one (n : Nat) : bigB n 1 = [UInt8.ofNat n] := by
  have h := big_step n 1 0 (by omega)
  have h0 : (bigB n 1).take 1 = bigB n 1 := List.take_of_length_le (by rw [big_len]; omega)
  rw [Nat.zero_add, h0, List.take_zero] at h
  simpa using h
theorem wr_gone {c : Ch} (h : c.gone = true) (cur : Bs) : (cur ++ [0]) ++ (bigB c.key.length 1 ++ c.key) = cur ++ wr1 c := by
  unfold wr1
  rw [if_pos h, big_one]
  simp
theorem wr_set {c : Ch} (h : c.gone = false) (cur : Bs) : ((cur ++ [1]) ++ (bigB c.key.length 1 ++ c.key)) ++ (bigB c.val.length 4 ++ c.val) = cur ++ wr1 c := by
  unfold wr1
  rw [if_neg (by rw [h]; decide), big_one]
  simp
theorem wr1_len {c : Ch} (h : rightC c) : (wr1 c).length ≤ 8230 := by
  obtain ⟨h1, h2, h3⟩ := h
  unfold wr1
  cases hg : c.gone
  · have := h3 hg
    simp [big_len]; omega
  · simp; omega
theorem wrL_le {l : List Ch} (h : RightL l) : (wrL l).length ≤ 8230 * l.length := by
  induction l with
  | nil => simp [wrL]
  | cons c l ih =>
    rw [wrL_cons, List.length_append, List.length_cons]
    have h1 := wr1_len (h c List.mem_cons_self)
    have h2 := ih fun x hx => h x (List.mem_cons_of_mem _ hx)
    omega
theorem wrL_take {l : List Ch} {i : Nat} {c : Ch} (h : l[i]? = some c) : wrL (l.take (i + 1)) = wrL (l.take i) ++ wr1 c := by
  rw [List.take_add_one, h]
  show wrL (_ ++ [c]) = _
  rw [wrL_app]
  congr 1
  unfold wrL
  simp
theorem wrL_part (l : List Ch) (i : Nat) : (wrL (l.take i)).length ≤ (wrL l).length := by
  have h : wrL l = wrL (l.take i) ++ wrL (l.drop i) := by rw [← wrL_app, List.take_append_drop]
  rw [h, List.length_append]
  omega
theorem row_off {w0 w : World} {v : Value} {l : Bs} (h : Row w0 w v l) : v.ownBlock ≠ some w.heap.size := fun e => by
  have := (World.ownsRow.lt h.own _ e).2
  omega
theorem grew_cell {w w' : World} {v v' : Value} {A k : Nat} {u : Value} (h : Grew w v w' v') (hA : v.ownBlock ≠ some A) (hc : w.cell? ⟨A, k, none⟩ = some u) : w'.cell? ⟨A, k, none⟩ = some u := by
  rw [World.cell?_of_block (h.1.block A (World.block_lt_of_cell? w _ hc) fun e => hA e.symm)]
  exact hc
set_option maxRecDepth 100000 in
set_option maxHeartbeats 4000000 in
theorem sinb_c (K : Set_) (w : World) (x : Value) (l : List Ch) (h : ChsAt K w x l) (hr : RightL l) (hl : l.length ≤ 100000) (hw : (wrL l).length ≤ 90000000) : GivesB w 46 #[x] (wrL l) := by
  obtain ⟨sp, c, rfl, _⟩ := h.form
  obtain ⟨n, hn⟩ : ∃ n, l.length = n := ⟨_, rfl⟩
  rw [hn] at h hl ⊢
  have H := hide h
  have HN := hide hn
  have HRi := hide hr
  have HW := hide hw
  obtain ⟨ANS, hA⟩ : ∃ y, wrL l = y := ⟨_, rfl⟩
  rw [hA]
  have HA := hide hA
  clear h hn hA hr hw
  go_enter Tryz.func46, Tryz.ntmps46
  go_wp2
  go_loopw [3, 8] (fun bb ii wr => ∃ (i LN : Nat) (sq : Option Addr) (cq : Nat), i ≤ n ∧ bb = .slice sq LN cq ∧ ii = .int .i64 (i : Int) ∧ Hid (Row w wr (.slice sq LN cq) (wrL (l.take i)))) (fun _ ii _ => n - (intOf ii).toNat)
  case atStart => exact ⟨0, 0, none, 0, by omega, rfl, rfl, ⟨ownb_nil _ _, Below.refl _ _⟩⟩
  case round =>
    obtain ⟨i, LN, sq, cq, hi, rfl, rfl, HR⟩ := hrel
    by_cases hlt : i < n
    · obtain ⟨ch, g, o, s1, c1, s2, c2, hop, rfl, hKg, hgl, h3⟩ := (unhide H).one (i := i) (by have := unhide HN; omega)
      have h3r := h3.aside (S := none_) (Aside.of_below (unhide HR).b) (fun _ h => h.elim) hKg
      have f1 : decide ((i : Int) < (n : Int)) = true := by simp; omega
      have f1n : decide (i < n) = true := by simp; omega
      have j0 : (0 : Int) ≤ (i : Int) := by omega
      have j1 : (i : Int) < (n : Int) := by omega
      have k0 := h3r.c0
      have k1 := h3r.c1
      have k2 := h3r.c2
      have hrc := unhide HRi ch (List.mem_of_getElem? hop)
      have HT : Hid (wrL (l.take (i + 1)) = wrL (l.take i) ++ wr1 ch) := wrL_take hop
      have HKey := hide h3.key.at_
      have HVal := hide h3.val.at_
      have hkl : ch.key.length ≤ 32 := hrc.2.1
      have HVl : Hid (ch.gone = false → ch.val.length ≤ 8192) := hrc.2.2
      obtain ⟨KN, hKN⟩ : ∃ y, ch.key.length = y := ⟨_, rfl⟩
      obtain ⟨VN, hVN⟩ : ∃ y, ch.val.length = y := ⟨_, rfl⟩
      obtain ⟨gb, hgb⟩ : ∃ y, ch.gone = y := ⟨_, rfl⟩
      rw [hKN] at k0 HKey hkl
      rw [hVN] at k1 HVal HVl
      rw [hgb] at k2 HVl
      obtain ⟨w1, hw1⟩ : ∃ y, wr.alloc (.cells #[.slice s1 KN c1, .slice s2 VN c2, .bool gb] 72) = y := ⟨_, rfl⟩
      obtain ⟨m0, m1, m2⟩ := cells_new3 wr (.slice s1 KN c1) (.slice s2 VN c2) (.bool gb) 72
      have HR1 : Hid (Row w w1 (.slice sq LN cq) (wrL (l.take i))) := by rw [← hw1]; exact (unhide HR).lit _
      have HO : Hid ((Value.slice sq LN cq).ownBlock ≠ some wr.heap.size) := row_off (unhide HR)
      obtain ⟨cur, hcur⟩ : ∃ y, wrL (l.take i) = y := ⟨_, rfl⟩
      have HCL : Hid (cur.length ≤ 90000000) := by show _ ≤ _; rw [← hcur]; exact Nat.le_trans (wrL_part l i) (unhide HW)
      have HKN := hide hKN
      have HVN := hide hVN
      have HGB := hide hgb
      rw [hcur] at HR1 HT
      obtain ⟨CN, hCN⟩ : ∃ y, cur.length = y := ⟨_, rfl⟩
      have HCC := hide hCN
      obtain ⟨L4, hL4⟩ : ∃ y, ((cur ++ [1]) ++ (bigB ch.key.length 1 ++ ch.key)).length = y := ⟨_, rfl⟩
      have HL4 := hide hL4
      have HE : Hid (ch.gone = false → ((cur ++ [1]) ++ (bigB ch.key.length 1 ++ ch.key)) ++ (bigB ch.val.length 4 ++ ch.val) = cur ++ wr1 ch) := fun h => wr_set h cur
      rw [hw1] at m0 m1 m2
      clear h3 h3r hop hKN hVN hgb hrc hcur HR hKg hgl hCN hL4
      go_upto_region 5 with fail
      cases gb
      · go_upto_region 7 with fail
        refine wp_region_held_drew (S := fun w' => w'.cell? ⟨wr.heap.size, 0, none⟩ = some (.slice s1 KN c1)) (by kernel_rfl) (m0) (fun hHeld => ?_)
        refine wpAnyH_take (i := 0) (oi := { dst := some 20, op := Op.move (Operand.tmp 3), type := 23, pos := "change.go:47", after := #[], guard := none }) (v := ?_) rfl (by kernel_rfl) (by kernel_rfl) (by kernel_rfl) (fun _ _ _ h => h) (Or.inl ⟨by rfl, ?b1⟩) (by assumption) ?_
        case b1 => (intro w_ hSw; (try dsimp only at hSw); go_simp; try with_reducible rfl)
        simp only [Act.put, List.setIfInBounds_toArray, List.set_cons_zero, List.set_cons_succ]
        refine wpAnyH_take (i := 3) (oi := { dst := some 23, op := Op.fieldAddr 72 (Operand.tmp 5) 0, type := 0, pos := "change.go:47", after := #[], guard := none }) (v := ?_) rfl (by kernel_rfl) (by kernel_rfl) (by kernel_rfl) (fun _ _ _ h => h) (Or.inl ⟨by rfl, ?b2⟩) (by assumption) ?_
        case b2 => (intro w_ hSw; (try dsimp only at hSw); go_simp; try with_reducible rfl)
        simp only [Act.put, List.setIfInBounds_toArray, List.set_cons_zero, List.set_cons_succ]
        refine wpAnyH_take (i := 4) (oi := { dst := some 24, op := Op.load 23 (Operand.tmp 23), type := 23, pos := "change.go:47", after := #[{ on := 3, ground := Ground.data }], guard := none }) (v := ?_) rfl (by kernel_rfl) (by kernel_rfl) (by kernel_rfl) (fun _ _ _ h => h) (Or.inl ⟨by rfl, ?b3⟩) (by assumption) ?_
        case b3 => (intro w_ hSw; (try dsimp only at hSw); go_simp; try with_reducible rfl)
        simp only [Act.put, List.setIfInBounds_toArray, List.set_cons_zero, List.set_cons_succ]
        refine wpAnyH_ready (rs := [1]) (by kernel_rfl) (by simp) ?_
        refine AllReadyH.cons (o := { dst := some 21, op := Op.buildSlice 23 1 #[(0, Operand.const (Value.int IntKind.u8 1))], type := 23, pos := "change.go:47", after := #[], guard := none }) rfl (fun K_ hK_ => ?_) AllReadyH.nil
        go_simp
        obtain ⟨W2, hW2⟩ : ∃ y, (w1.alloc (.cells #[.int .u8 1] 5)).drew = y := ⟨_, rfl⟩
        have HR2 : Hid (Row w W2 (.slice sq LN cq) cur) := by show Row _ _ _ _; rw [← hW2]; exact ((unhide HR1).lit _).call (Below.refl _ _).drew
        have HY2 : Hid (BytesAt W2 (.slice (some ⟨w1.heap.size, 0, none⟩) 1 1) [1]) := by show BytesAt _ _ _; rw [← hW2]; exact ValsAt.drew (bytes_new w1 [1])
        have HM2 : Hid (W2.cell? ⟨wr.heap.size, 0, none⟩ = some (.slice s1 KN c1) ∧ W2.cell? ⟨wr.heap.size, 1, none⟩ = some (.slice s2 VN c2)) := by show _ ∧ _; rw [← hW2]; exact ⟨cell_aside (S := none_) m0 (Aside.of_below ((Below.refl _ _).alloc (Nat.le_refl _) _).drew) (fun h => h), cell_aside (S := none_) m1 (Aside.of_below ((Below.refl _ _).alloc (Nat.le_refl _) _).drew) (fun h => h)⟩
        rw [hW2]
        clear hW2
        refine hK_.out _ _ ((unhide HM2).1) (fun hHeld => ?_)
        clear hK_ K_
        (try simp only [Act.put, List.setIfInBounds_toArray, List.set_cons_zero, List.set_cons_succ])
        refine wpAnyH_ready (rs := [2]) (by kernel_rfl) (by simp) ?_
        refine AllReadyH.cons (o := { dst := some 22, op := Op.call { callee := Callee.builtin Builtin.append, args := #[Operand.tmp 20, Operand.tmp 21], argTypes := #[23, 23] }, type := 23, pos := "change.go:47", after := #[{ on := 0, ground := Ground.data }, { on := 1, ground := Ground.data }], guard := none }) rfl (fun K_ hK_ => ?_) AllReadyH.nil
        refine step_append_row rfl _ _ rfl (.slice sq LN cq) (.slice (some ⟨w1.heap.size, 0, none⟩) 1 1) cur [1] rfl (unhide HR2) rfl (unhide HY2) (by have := unhide HCL; simp; omega) ?_
        intro v3 W3 hR3 hG3
        obtain ⟨s3, c3, e3⟩ := hR3.own.form
        rw [List.length_append, unhide HCC, List.length_singleton] at e3
        subst e3
        have HR3 := hide hR3
        have HM3 : Hid (W3.cell? ⟨wr.heap.size, 0, none⟩ = some (.slice s1 KN c1) ∧ W3.cell? ⟨wr.heap.size, 1, none⟩ = some (.slice s2 VN c2)) := ⟨grew_cell hG3 (unhide HO) (unhide HM2).1, grew_cell hG3 (unhide HO) (unhide HM2).2⟩
        have HO3 : Hid ((Value.slice s3 (CN + 1) c3).ownBlock ≠ some wr.heap.size) := (Gw.of hG3).off (unhide HO) (World.block_lt_of_cell? _ _ (unhide HM2).1)
        clear hR3 hG3
        refine hK_.out _ _ ((unhide HM3).1) (fun hHeld => ?_)
        clear hK_ K_
        (try simp only [Act.put, List.setIfInBounds_toArray, List.set_cons_zero, List.set_cons_succ])
        refine wpAnyH_ready (rs := [5]) (by kernel_rfl) (by simp) ?_
        refine AllReadyH.cons (o := { dst := some 25, op := Op.call { callee := Callee.value (Operand.func 70), args := #[Operand.tmp 22, Operand.const (Value.int IntKind.i64 1), Operand.tmp 24], argTypes := #[23, 3, 23] }, type := 23, pos := "change.go:47", after := #[{ on := 2, ground := Ground.data }, { on := 4, ground := Ground.data }, { on := 2, ground := Ground.chain }], guard := none }) rfl (fun K_ hK_ => ?_) AllReadyH.nil
        go_simp
        go_at_call 70
        refine (saddp_c w W3 _ _ _ ch.key 1 (unhide HR3) (unhide HKey) (by omega) (by omega) (by have := unhide HKN; omega) (by have := unhide HCL; simp; omega)).mono ?_
        rintro e W4 ⟨v4, rfl, hR4, hG4⟩
        have HM4 : Hid (W4.cell? ⟨wr.heap.size, 0, none⟩ = some (.slice s1 KN c1) ∧ W4.cell? ⟨wr.heap.size, 1, none⟩ = some (.slice s2 VN c2)) := ⟨hG4.cell (unhide HO3) (unhide HM3).1, hG4.cell (unhide HO3) (unhide HM3).2⟩
        clear hG4
        obtain ⟨s4, c4, e4⟩ := hR4.own.form
        rw [unhide HL4] at e4
        subst e4
        have HR4 := hide hR4
        clear hR4
        go_simp
        refine hK_.out _ _ ((unhide HM4).1) (fun hHeld => ?_)
        clear hK_ K_
        (try simp only [Act.put, List.setIfInBounds_toArray, List.set_cons_zero, List.set_cons_succ])
        refine wpAnyH_take (i := 6) (oi := { dst := some 3, op := Op.assign (Operand.tmp 25), type := 23, pos := "change.go:47", after := #[{ on := 5, ground := Ground.data }, { on := 5, ground := Ground.chain }, { on := 0, ground := Ground.phase }, { on := 1, ground := Ground.phase }, { on := 2, ground := Ground.phase }, { on := 3, ground := Ground.phase }, { on := 4, ground := Ground.phase }, { on := 5, ground := Ground.phase }], guard := none }) (v := ?_) rfl (by kernel_rfl) (by kernel_rfl) (by kernel_rfl) (fun _ _ _ h => h) (Or.inl ⟨by rfl, ?b4⟩) (by assumption) ?_
        case b4 => (intro w_ hSw; (try dsimp only at hSw); go_simp; try with_reducible rfl)
        simp only [Act.put, List.setIfInBounds_toArray, List.set_cons_zero, List.set_cons_succ]
        refine wpAnyH_done (by kernel_rfl) ?_ _
        go_upto_region 8 with fail
        have q1 := (unhide HM4).2
        go_wp2_with (go_at_call 70; refine (saddp_c w W4 _ _ _ ch.val 4 (unhide HR4) (unhide HVal) (by omega) (by omega) (by have := unhide HVl rfl; have := unhide HVN; omega) (by have := unhide HCL; have := unhide HKN; simp [big_len]; omega)).mono ?_
                     rintro e W5 ⟨v5, rfl, hR5, _⟩
                     rw [unhide HE (unhide HGB), ← unhide HT] at hR5
                     obtain ⟨s5, c5, e5⟩ := hR5.own.form
                     subst e5
                     have HR5 := hide hR5
                     clear hR5)
        refine ⟨⟨i + 1, _, s5, c5, by omega, rfl, ?_, HR5⟩, ?_⟩
        · simp
        · simp [intOf]; omega
      · go_upto_region 6 with fail
        refine wp_region_held_drew (S := fun w' => w'.cell? ⟨wr.heap.size, 0, none⟩ = some (.slice s1 KN c1)) (by kernel_rfl) (m0) (fun hHeld => ?_)
        refine wpAnyH_take (i := 0) (oi := { dst := some 14, op := Op.move (Operand.tmp 3), type := 23, pos := "change.go:45", after := #[], guard := none }) (v := ?_) rfl (by kernel_rfl) (by kernel_rfl) (by kernel_rfl) (fun _ _ _ h => h) (Or.inl ⟨by rfl, ?a1⟩) (by assumption) ?_
        case a1 => (intro w_ hSw; (try dsimp only at hSw); go_simp; try with_reducible rfl)
        simp only [Act.put, List.setIfInBounds_toArray, List.set_cons_zero, List.set_cons_succ]
        refine wpAnyH_take (i := 3) (oi := { dst := some 17, op := Op.fieldAddr 72 (Operand.tmp 5) 0, type := 0, pos := "change.go:45", after := #[], guard := none }) (v := ?_) rfl (by kernel_rfl) (by kernel_rfl) (by kernel_rfl) (fun _ _ _ h => h) (Or.inl ⟨by rfl, ?a2⟩) (by assumption) ?_
        case a2 => (intro w_ hSw; (try dsimp only at hSw); go_simp; try with_reducible rfl)
        simp only [Act.put, List.setIfInBounds_toArray, List.set_cons_zero, List.set_cons_succ]
        refine wpAnyH_take (i := 4) (oi := { dst := some 18, op := Op.load 23 (Operand.tmp 17), type := 23, pos := "change.go:45", after := #[{ on := 3, ground := Ground.data }], guard := none }) (v := ?_) rfl (by kernel_rfl) (by kernel_rfl) (by kernel_rfl) (fun _ _ _ h => h) (Or.inl ⟨by rfl, ?a3⟩) (by assumption) ?_
        case a3 => (intro w_ hSw; (try dsimp only at hSw); go_simp; try with_reducible rfl)
        simp only [Act.put, List.setIfInBounds_toArray, List.set_cons_zero, List.set_cons_succ]
        refine wpAnyH_ready (rs := [1]) (by kernel_rfl) (by simp) ?_
        refine AllReadyH.cons (o := { dst := some 15, op := Op.buildSlice 23 1 #[(0, Operand.const (Value.int IntKind.u8 0))], type := 23, pos := "change.go:45", after := #[], guard := none }) rfl (fun K_ hK_ => ?_) AllReadyH.nil
        go_simp
        obtain ⟨W2, hW2⟩ : ∃ y, (w1.alloc (.cells #[.int .u8 0] 5)).drew = y := ⟨_, rfl⟩
        have HR2 : Hid (Row w W2 (.slice sq LN cq) cur) := by show Row _ _ _ _; rw [← hW2]; exact ((unhide HR1).lit _).call (Below.refl _ _).drew
        have HY2 : Hid (BytesAt W2 (.slice (some ⟨w1.heap.size, 0, none⟩) 1 1) [0]) := by show BytesAt _ _ _; rw [← hW2]; exact ValsAt.drew (bytes_new w1 [0])
        have HM2 : Hid (W2.cell? ⟨wr.heap.size, 0, none⟩ = some (.slice s1 KN c1) ∧ W2.cell? ⟨wr.heap.size, 1, none⟩ = some (.slice s2 VN c2)) := by show _ ∧ _; rw [← hW2]; exact ⟨cell_aside (S := none_) m0 (Aside.of_below ((Below.refl _ _).alloc (Nat.le_refl _) _).drew) (fun h => h), cell_aside (S := none_) m1 (Aside.of_below ((Below.refl _ _).alloc (Nat.le_refl _) _).drew) (fun h => h)⟩
        rw [hW2]
        clear hW2
        refine hK_.out _ _ ((unhide HM2).1) (fun hHeld => ?_)
        clear hK_ K_
        (try simp only [Act.put, List.setIfInBounds_toArray, List.set_cons_zero, List.set_cons_succ])
        refine wpAnyH_ready (rs := [2]) (by kernel_rfl) (by simp) ?_
        refine AllReadyH.cons (o := { dst := some 16, op := Op.call { callee := Callee.builtin Builtin.append, args := #[Operand.tmp 14, Operand.tmp 15], argTypes := #[23, 23] }, type := 23, pos := "change.go:45", after := #[{ on := 0, ground := Ground.data }, { on := 1, ground := Ground.data }], guard := none }) rfl (fun K_ hK_ => ?_) AllReadyH.nil
        refine step_append_row rfl _ _ rfl (.slice sq LN cq) (.slice (some ⟨w1.heap.size, 0, none⟩) 1 1) cur [0] rfl (unhide HR2) rfl (unhide HY2) (by have := unhide HCL; simp; omega) ?_
        intro v3 W3 hR3 hG3
        obtain ⟨s3, c3, e3⟩ := hR3.own.form
        rw [List.length_append, unhide HCC, List.length_singleton] at e3
        subst e3
        have HR3 := hide hR3
        have HM3 : Hid (W3.cell? ⟨wr.heap.size, 0, none⟩ = some (.slice s1 KN c1) ∧ W3.cell? ⟨wr.heap.size, 1, none⟩ = some (.slice s2 VN c2)) := ⟨grew_cell hG3 (unhide HO) (unhide HM2).1, grew_cell hG3 (unhide HO) (unhide HM2).2⟩
        have HO3 : Hid ((Value.slice s3 (CN + 1) c3).ownBlock ≠ some wr.heap.size) := (Gw.of hG3).off (unhide HO) (World.block_lt_of_cell? _ _ (unhide HM2).1)
        clear hR3 hG3
        refine hK_.out _ _ ((unhide HM3).1) (fun hHeld => ?_)
        clear hK_ K_
        (try simp only [Act.put, List.setIfInBounds_toArray, List.set_cons_zero, List.set_cons_succ])
        refine wpAnyH_ready (rs := [5]) (by kernel_rfl) (by simp) ?_
        refine AllReadyH.cons (o := { dst := some 19, op := Op.call { callee := Callee.value (Operand.func 70), args := #[Operand.tmp 16, Operand.const (Value.int IntKind.i64 1), Operand.tmp 18], argTypes := #[23, 3, 23] }, type := 23, pos := "change.go:45", after := #[{ on := 2, ground := Ground.data }, { on := 4, ground := Ground.data }, { on := 2, ground := Ground.chain }], guard := none }) rfl (fun K_ hK_ => ?_) AllReadyH.nil
        go_simp
        go_at_call 70
        refine (saddp_c w W3 _ _ _ ch.key 1 (unhide HR3) (unhide HKey) (by omega) (by omega) (by have := unhide HKN; omega) (by have := unhide HCL; simp; omega)).mono ?_
        rintro e W4 ⟨v4, rfl, hR4, hG4⟩
        have HM4 : Hid (W4.cell? ⟨wr.heap.size, 0, none⟩ = some (.slice s1 KN c1) ∧ W4.cell? ⟨wr.heap.size, 1, none⟩ = some (.slice s2 VN c2)) := ⟨hG4.cell (unhide HO3) (unhide HM3).1, hG4.cell (unhide HO3) (unhide HM3).2⟩
        clear hG4
        rw [wr_gone (unhide HGB), ← unhide HT] at hR4
        obtain ⟨s4, c4, e4⟩ := hR4.own.form
        subst e4
        have HR4 := hide hR4
        clear hR4
        go_simp
        refine hK_.out _ _ ((unhide HM4).1) (fun hHeld => ?_)
        clear hK_ K_
        (try simp only [Act.put, List.setIfInBounds_toArray, List.set_cons_zero, List.set_cons_succ])
        refine wpAnyH_take (i := 6) (oi := { dst := some 3, op := Op.assign (Operand.tmp 19), type := 23, pos := "change.go:45", after := #[{ on := 5, ground := Ground.data }, { on := 5, ground := Ground.chain }, { on := 0, ground := Ground.phase }, { on := 1, ground := Ground.phase }, { on := 2, ground := Ground.phase }, { on := 3, ground := Ground.phase }, { on := 4, ground := Ground.phase }, { on := 5, ground := Ground.phase }], guard := none }) (v := ?_) rfl (by kernel_rfl) (by kernel_rfl) (by kernel_rfl) (fun _ _ _ h => h) (Or.inl ⟨by rfl, ?a4⟩) (by assumption) ?_
        case a4 => (intro w_ hSw; (try dsimp only at hSw); go_simp; try with_reducible rfl)
        simp only [Act.put, List.setIfInBounds_toArray, List.set_cons_zero, List.set_cons_succ]
        refine wpAnyH_done (by kernel_rfl) ?_ _
        go_wp2
        refine ⟨⟨i + 1, _, s4, c4, by omega, rfl, ?_, HR4⟩, ?_⟩
        · simp
        · simp [intOf]; omega
    · obtain rfl : i = n := by omega
      have f1 : decide ((i : Int) < (i : Int)) = false := by simp
      have HE : Hid (Row w wr (.slice sq LN cq) ANS) := by
        have h := unhide HR
        rw [List.take_of_length_le (by have := unhide HN; omega), unhide HA] at h
        exact h
      clear HR
      go_wp2
      go_ret
      exact ⟨_, rfl, unhide HE⟩
end Go.Proofs.YtbjgknoipbekoaaGreat
