/-
  A store in memory; the walks of maps.Clone and the landed store's Generation, Get and Keys.
  The tables of the landed store: Names, walked over the store as it lies in memory.
  StoreTables over the kept plate, log and store.
  The walks of the landed store's halfSize, roomInHalf, firstSector, openLog, markPlace, markOf, readMark, greaterMark, writeSafe.
-/
import Derived.Test.YtbjgknoipbekoaaGreatQ22
import Derived.Test.YtbjgknoipbekoaaGreatQ3
import Derived.Test.YtbjgknoipbekoaaGreatQ30
import Derived.Laws.DeepStrings4
import Derived.Lib.IndexBytes
import Derived.Test.YtbjgknoipbekoaaGreatQ32
import Derived.Test.YtbjgknoipbekoaaGreatQ8
namespace Go.Proofs.YtbjgknoipbekoaaGreat
open Go.RowKit Go.MapKept
set_option maxRecDepth 100000 in
theorem pclone_c {V : Set_} {w : World} {B : Nat} {f : Bs → Option Bs} (hm : SMAt V w B f) :
    Calls Tryz.prog 48 #[.map (some B)] w fun e w' => e = .returned (.map (some w.heap.size)) ∧ SMAt V w' w.heap.size f ∧ Below w.heap.size w w' ∧ w.heap.size < w'.heap.size := by
  obtain ⟨es, c, h1, h2, h3⟩ := hm
  have hb : Below w.heap.size w (w.alloc (.map es c)) := (Below.refl _ _).alloc (Nat.le_refl _) _
  have HM : Hid (SMAt V (w.alloc (.map es c)) w.heap.size f) := ⟨es, c, (heap_alloc w _).1, h2, h3.aside (S := none_) (Aside.of_below hb) fun _ h => h.elim⟩
  have HB := hide hb
  have HS : Hid (w.heap.size < (w.alloc (.map es c)).heap.size) := (Array.getElem?_eq_some_iff.1 (heap_alloc w (.map es c)).1).1
  have hcl : (callFunc 71 #[.iface 92 (.map (some B))]).run Tryz.prog w = .ok (.value (.iface 92 (.map (some w.heap.size)))) (w.alloc (.map es c)) := by
    have e : Extern.MapsClone.clone #[.iface 92 (.map (some B))] = (getObj B >>= fun o => match o with
      | .map entries clock => (newObj (.map entries clock) >>= fun n => pure (.iface 92 (.map (some n))))
      | _ => stuck "maps.clone: a map expected") := rfl
    rw [run_callFunc_extern Tryz.func71 (by kernel_rfl) (by kernel_rfl) (by kernel_rfl) (e := Extern.MapsClone.clone) (by kernel_rfl) _ w, e]
    simp [MapKept.run_getObj_map h1, Result.andThen]
  have heq : ∀ w, (binOp .eql 92 (.map (some B)) (.map none)).run Tryz.prog w = .ok (.bool false) w := fun w => by kernel_rfl
  have hta : ∀ (x : Nat) (w : World), (Instr.typeAssert (.iface 92 (.map (some x))) 20 92 false).run Tryz.prog w = .ok (.map (some x)) w := fun x w => by kernel_rfl
  obtain ⟨w2, hw2⟩ : ∃ x, w.alloc (.map es c) = x := ⟨_, rfl⟩
  rw [hw2] at HM HB hcl HS
  clear h1 h2 h3 hw2 hb
  go_enter Tryz.func48, Tryz.ntmps48
  go_wp2
  go_ret
  exact ⟨rfl, unhide HM, unhide HB, unhide HS⟩
/-- A store's five cells. -/
def sCells (p : Value) (g : Nat) (l : Value) (B : Nat) (c : Bool) : List Value := [p, .int .i64 (g : Int), l, .map (some B), .bool c]
/-- A store in its block A, its map in block B, the values in blocks of V, its log. -/
structure SForm (LAt : Set_ → Set_ → World → Value → Value → LS → Prop) (w : World) (A B : Nat) (V : Set_) (p l : Value) (S2 R2 : Set_) (G : SS) : Prop where
  str : RowAt 94 w A [] (sCells p G.gen l B G.closed)
  map : SMAt V w B (getP G.pairs)
  log : LAt S2 R2 w l p G.log
  sorted : SortedP G.pairs
  few : G.pairs.length ≤ 100000
  right : RightP G.pairs
  vlt : ∀ k, V k → k < w.heap.size
  ab : A ≠ B
  va : ¬ V A ∧ ¬ V B
  sa : ¬ S2 A ∧ ¬ S2 B
  ra : ¬ R2 A ∧ ¬ R2 B
  sv : ∀ k, S2 k → ¬ V k
  gen : G.gen < 2147483648
def SAt (LAt : Set_ → Set_ → World → Value → Value → LS → Prop) (S R : Set_) (w : World) (t p : Value) (G : SS) : Prop := ∃ A B V l S2 R2, t = .pointer (some ⟨A, 0, none⟩) ∧ SForm LAt w A B V p l S2 R2 G ∧ (∀ k, S k ↔ k = A ∨ k = B ∨ S2 k) ∧ (∀ k, R k ↔ V k ∨ R2 k)
section
variable {LAt : Set_ → Set_ → World → Value → Value → LS → Prop} {PAt : Set_ → Set_ → World → Value → PS → Prop} (HW : Wal PAt LAt)
include HW in
theorem SForm.aside {w w' : World} {A B : Nat} {V : Set_} {p l : Value} {S2 R2 T : Set_} {G : SS} (h : SForm LAt w A B V p l S2 R2 G) (hb : Aside T w w') (hA : ¬ T A) (hB : ¬ T B) (hV : ∀ k, T k → ¬ V k) (hL : ∀ k, T k → ¬ S2 k ∧ ¬ R2 k) : SForm LAt w' A B V p l S2 R2 G :=
  ⟨by unfold RowAt; rw [hb.block A h.str.lt hA]; exact h.str, h.map.aside hb hB hV, HW.kept h.log hb hL, h.sorted, h.few, h.right, fun k hk => Nat.lt_of_lt_of_le (h.vlt k hk) hb.size, h.ab, h.va, h.sa, h.ra, h.sv, h.gen⟩
theorem sat_ptr {S R : Set_} {w : World} {t p : Value} {G : SS} (h : SAt LAt S R w t p G) : ∃ a, t = .pointer (some a) := by
  obtain ⟨A, B, V, l, S2, R2, rfl, _⟩ := h
  exact ⟨_, rfl⟩
include HW in
theorem sat_old {S R : Set_} {w : World} {t p : Value} {G : SS} (h : SAt LAt S R w t p G) : ∀ k, S k ∨ R k → k < w.heap.size := by
  obtain ⟨A, B, V, l, S2, R2, rfl, hf, hS, hR⟩ := h
  intro k hk
  rcases hk with hk | hk
  · rcases (hS k).1 hk with rfl | rfl | h1
    · exact hf.str.lt
    · exact hf.map.lt
    · exact HW.old hf.log k (Or.inl h1)
  · rcases (hR k).1 hk with h1 | h1
    · exact hf.vlt k h1
    · exact HW.old hf.log k (Or.inr h1)
include HW in
theorem sat_kept {S R T : Set_} {w w' : World} {t p : Value} {G : SS} (h : SAt LAt S R w t p G) (hb : Aside T w w') (hT : ∀ k, T k → ¬ S k ∧ ¬ R k) : SAt LAt S R w' t p G := by
  obtain ⟨A, B, V, l, S2, R2, rfl, hf, hS, hR⟩ := h
  refine ⟨A, B, V, l, S2, R2, rfl, hf.aside HW hb (fun h => (hT A h).1 ((hS A).2 (Or.inl rfl))) (fun h => (hT B h).1 ((hS B).2 (Or.inr (Or.inl rfl)))) (fun k hk hV => (hT k hk).2 ((hR k).2 (Or.inl hV))) (fun k hk => ⟨fun h => (hT k hk).1 ((hS k).2 (Or.inr (Or.inr h))), fun h => (hT k hk).2 ((hR k).2 (Or.inr h))⟩), hS, hR⟩
theorem srow5 {w : World} {A : Nat} {p l : Value} {g B : Nat} {c : Bool} (h : RowAt 94 w A [] (sCells p g l B c)) : w.cell? ⟨A, 0, none⟩ = some p ∧ w.cell? ⟨A, 1, none⟩ = some (.int .i64 (g : Int)) ∧ w.cell? ⟨A, 2, none⟩ = some l ∧ w.cell? ⟨A, 3, none⟩ = some (.map (some B)) ∧ w.cell? ⟨A, 4, none⟩ = some (.bool c) :=
  ⟨h.cell 0 (by simp [sCells]), h.cell 1 (by simp [sCells]), h.cell 2 (by simp [sCells]), h.cell 3 (by simp [sCells]), h.cell 4 (by simp [sCells])⟩
set_option maxRecDepth 100000 in
theorem sgen_c {S R : Set_} {w : World} {t p : Value} {G : SS} (h : SAt LAt S R w t p G) : Calls Tryz.prog 20 #[t] w fun e w' => e = .returned (.int .i64 (G.gen : Int)) ∧ Below w.heap.size w w' := by
  obtain ⟨A, B, V, l, S2, R2, rfl, hf, _, _⟩ := h
  obtain ⟨_, k1, _⟩ := srow5 hf.str
  clear hf
  go_enter Tryz.func20, Tryz.ntmps20
  go_wp2
  go_ret
  exact ⟨rfl, Below.refl _ _⟩
set_option maxRecDepth 100000 in
set_option maxHeartbeats 2000000 in
theorem sget_c {S R : Set_} {w : World} {t p : Value} {G : SS} (x : Value) (k : Bs) (h : SAt LAt S R w t p G) (hx : BytesAt w x k) : Calls Tryz.prog 15 #[t, x] w fun e w' => ∃ v, e = .returned (.tuple #[v, .bool (getP G.pairs k).isSome]) ∧ OwnB w' w.heap.size v ((getP G.pairs k).getD []) ∧ Below w.heap.size w w' := by
  obtain ⟨A, B, V, l, S2, R2, rfl, hf, _, _⟩ := h
  obtain ⟨_, _, _, k3, _⟩ := srow5 hf.str
  have hbd : Below w.heap.size w w.drew := (Below.refl _ _).drew
  obtain ⟨vv, hlk, hvv⟩ := (hf.map.below hbd).look k true
  simp only [if_true] at hlk
  have cv := conv_str (hx.below hbd)
  have hvl : ((getP G.pairs k).getD []).length ≤ 8192 := by
    cases hg : getP G.pairs k with
    | none => simp
    | some b => exact (hf.right _ (get_mem hg)).2.2
  obtain ⟨sx, cx, rfl, _⟩ := bytes_open hx
  obtain ⟨XN, hXN⟩ : ∃ y, k.length = y := ⟨_, rfl⟩
  rw [hXN] at cv ⊢
  obtain ⟨sk, hsk⟩ : ∃ y : ByteArray, (⟨k.toArray⟩ : ByteArray) = y := ⟨_, rfl⟩
  rw [hsk] at cv
  unfold ks at hlk
  rw [hsk] at hlk
  obtain ⟨val, hval⟩ : ∃ y, (getP G.pairs k).getD [] = y := ⟨_, rfl⟩
  obtain ⟨ok, hok⟩ : ∃ y, (getP G.pairs k).isSome = y := ⟨_, rfl⟩
  rw [hval] at hvv hvl ⊢
  rw [hok] at hlk ⊢
  have Hc := hide (bclone_c w.drew vv val hvv.at_ (by omega))
  obtain ⟨sv, cv', ev, _⟩ := bytes_open hvv.at_
  subst ev
  clear hf hx hvv hvl hXN hsk hval hok hbd
  go_enter Tryz.func15, Tryz.ntmps15
  go_wp2
  go_region
  go_wp2_with (go_at_call 51; refine (unhide Hc).mono ?_
               rintro e w2 ⟨v2, rfl, hR2⟩
               have HR2 := hide hR2
               clear hR2)
  go_ret2
  exact ⟨_, rfl, (unhide HR2).own, (Below.refl _ _).drew.trans (unhide HR2).b⟩
end
/-- A key that is told: bytes in a new block of K that may be written. -/
structure KeyEl (K : Set_) (B : Nat) (w : World) (u : Value) (b : Bs) : Prop where
  at_ : BytesAt w u b
  blk : ∀ k, u.ownBlock = some k → B ≤ k ∧ K k
  free : FreeAt w u b.length
theorem KeyEl.aside {K S : Set_} {B : Nat} {w w' : World} {u : Value} {b : Bs} (h : KeyEl K B w u b) (ha : Aside S w w') (hS : ∀ k, S k → ¬ K k) : KeyEl K B w' u b := by
  refine ⟨h.at_.aside ha fun k hk hSk => hS k hSk (h.blk k hk).2, h.blk, fun g o c m e j hj => ?_⟩
  have hne : b ≠ [] := by intro e; rw [e] at hj; simp at hj
  have hk : u.ownBlock = some g := by rw [e]; rfl
  rw [World.frozen?_of_block (ha.block g (ValsAt.old h.at_ (by simpa using hne) g hk) fun hSg => hS g hSg (h.blk g hk).2)]
  exact h.free g o c m e j hj
theorem KeyEl.mono {K K' : Set_} {B : Nat} {w : World} {u : Value} {b : Bs} (h : KeyEl K B w u b) (hK : ∀ k, K k → K' k) : KeyEl K' B w u b := ⟨h.at_, fun k hk => ⟨(h.blk k hk).1, hK k (h.blk k hk).2⟩, h.free⟩
theorem conv_free (w : World) (s : ByteArray) : ∃ (cp : Nat) (wb : World), (convert 9 23 (.string s)).run Tryz.prog w = .ok (.slice (some ⟨w.heap.size, 0, none⟩) s.size cp) wb ∧ BytesAt wb (.slice (some ⟨w.heap.size, 0, none⟩) s.size cp) s.data.toList ∧ Below w.heap.size w wb ∧ wb.heap.size = w.heap.size + 1 ∧ FreeAt wb (.slice (some ⟨w.heap.size, 0, none⟩) s.size cp) s.size := by
  refine ⟨_, _, run_bytes_of_string (P := Tryz.prog) w 9 23 5 s Tryz.underlying9 Tryz.underlying23 Tryz.underlying5, bytes_of_text w s, (Below.refl w.heap.size w).drew.alloc (Nat.le_refl _) _, by simp, fun g o c m e j hj => ?_⟩
  simp only [Value.slice.injEq, Option.some.injEq, Addr.mk.injEq] at e
  obtain ⟨⟨rfl, rfl, _⟩, _, rfl⟩ := e
  rw [Nat.zero_add]
  have h1 := World.frozen?_alloc_mark w.drew (bytesRow s (grownCap w s.size 0 5)) 5 (bytesRow s (grownCap w s.size 0 5)).size ((bytesRow s (grownCap w s.size 0 5)).size + 1) j
  have h2 : s.size ≤ (bytesRow s (grownCap w s.size 0 5)).size := by
    unfold bytesRow
    rw [Array.size_append, Array.size_map]
    exact Nat.le_add_right _ _
  refine h1.trans ?_
  rw [decide_eq_false (by omega)]
  rfl
section
variable {LAt : Set_ → Set_ → World → Value → Value → LS → Prop}
set_option maxRecDepth 100000 in
set_option maxHeartbeats 4000000 in
theorem skeys_c {S R : Set_} {w : World} {t p : Value} {G : SS} (x : Value) (pre : Bs) (h : SAt LAt S R w t p G) (hx : BytesAt w x pre) : Calls Tryz.prog 17 #[t, x] w fun e w' => ∃ v vs, e = .returned v ∧ ListsAt w.heap.size w' v vs (keysP G.pairs pre) ∧ Below w.heap.size w w' := by
  obtain ⟨A, B, V, l, S2, R2, rfl, hf, _, _⟩ := h
  obtain ⟨_, _, _, k3, _⟩ := srow5 hf.str
  have hbd : Below w.heap.size w w.drew := (Below.refl _ _).drew
  have HXd := hide (hx.below hbd)
  obtain ⟨sx, cx, rfl, _⟩ := bytes_open hx
  obtain ⟨XN, hXN⟩ : ∃ y, pre.length = y := ⟨_, rfl⟩
  rw [hXN] at HXd ⊢
  obtain ⟨sk, hsk⟩ : ∃ y : ByteArray, (⟨pre.toArray⟩ : ByteArray) = y := ⟨_, rfl⟩
  have Hcv : Hid (∀ w', BytesAt w' (.slice sx XN cx) pre → (convert 23 9 (.slice sx XN cx)).run Tryz.prog w' = .ok (.string sk) w') := fun w' h => by rw [conv_str h, hsk]
  have Hk := hide (pkeys_c (hf.map.below hbd) hf.sorted (Nat.le_trans hf.few (by omega)) sk)
  rw [show sk.data.toList = pre by rw [← hsk]] at Hk
  obtain ⟨ls, hls⟩ : ∃ y, keysP G.pairs pre = y := ⟨_, rfl⟩
  rw [hls] at Hk ⊢
  obtain ⟨n, hn⟩ : ∃ n, ls.length = n := ⟨_, rfl⟩
  have HN := hide hn
  have hnb : n ≤ 100000 := by rw [← hn, ← hls]; exact Nat.le_trans (keys_len _ _) hf.few
  have HC := hide k3
  clear hf hx hXN hsk hls hn hbd
  go_enter Tryz.func17, Tryz.ntmps17
  go_wp2
  refine wp_region_held_drew (S := fun w' => w'.cell? ⟨A, 3, none⟩ = some (.map (some B)) ∧ BytesAt w' (.slice sx XN cx) pre) (by kernel_rfl) (⟨k3, unhide HXd⟩) (fun hHeld => ?_)
  refine wpAnyH_take (i := 8) (oi := { dst := some 16, op := Op.move (Operand.const (Value.int IntKind.i64 0)), type := 3, pos := "store.go:50", after := #[], guard := none }) (v := ?_) rfl (by kernel_rfl) (by kernel_rfl) (by kernel_rfl) (fun _ _ _ h => h) (Or.inl ⟨by rfl, ?a1⟩) (by assumption) ?_
  case a1 => (intro w_ hSw; obtain ⟨p0, pk⟩ := hSw; go_simp; try with_reducible rfl)
  simp only [Act.put, List.setIfInBounds_toArray, List.set_cons_zero, List.set_cons_succ]
  refine wpAnyH_take (i := 0) (oi := { dst := some 8, op := Op.move (Operand.tmp 0), type := 28, pos := "store.go:50", after := #[], guard := none }) (v := ?_) rfl (by kernel_rfl) (by kernel_rfl) (by kernel_rfl) (fun _ _ _ h => h) (Or.inl ⟨by rfl, ?a2⟩) (by assumption) ?_
  case a2 => (intro w_ hSw; obtain ⟨p0, pk⟩ := hSw; go_simp; try with_reducible rfl)
  simp only [Act.put, List.setIfInBounds_toArray, List.set_cons_zero, List.set_cons_succ]
  refine wpAnyH_take (i := 1) (oi := { dst := some 9, op := Op.nilCheck (Operand.tmp 8), type := 0, pos := "store.go:50", after := #[{ on := 0, ground := Ground.data }], guard := none }) (v := ?_) rfl (by kernel_rfl) (by kernel_rfl) (by kernel_rfl) (fun _ _ _ h => h) (Or.inl ⟨by rfl, ?a3⟩) (by assumption) ?_
  case a3 => (intro w_ hSw; obtain ⟨p0, pk⟩ := hSw; go_simp; try with_reducible rfl)
  simp only [Act.put, List.setIfInBounds_toArray, List.set_cons_zero, List.set_cons_succ]
  refine wpAnyH_take (i := 2) (oi := { dst := some 10, op := Op.fieldAddr 94 (Operand.tmp 9) 3, type := 0, pos := "store.go:50", after := #[{ on := 1, ground := Ground.data }], guard := none }) (v := ?_) rfl (by kernel_rfl) (by kernel_rfl) (by kernel_rfl) (fun _ _ _ h => h) (Or.inl ⟨by rfl, ?a4⟩) (by assumption) ?_
  case a4 => (intro w_ hSw; obtain ⟨p0, pk⟩ := hSw; go_simp; try with_reducible rfl)
  simp only [Act.put, List.setIfInBounds_toArray, List.set_cons_zero, List.set_cons_succ]
  refine wpAnyH_take (i := 3) (oi := { dst := some 11, op := Op.load 92 (Operand.tmp 10), type := 92, pos := "store.go:50", after := #[{ on := 2, ground := Ground.data }], guard := none }) (v := ?_) rfl (by kernel_rfl) (by kernel_rfl) (by kernel_rfl) (fun _ _ _ h => h) (Or.inl ⟨by rfl, ?a5⟩) (by assumption) ?_
  case a5 => (intro w_ hSw; obtain ⟨p0, pk⟩ := hSw; go_simp; try with_reducible rfl)
  simp only [Act.put, List.setIfInBounds_toArray, List.set_cons_zero, List.set_cons_succ]
  refine wpAnyH_take (i := 4) (oi := { dst := some 12, op := Op.move (Operand.tmp 1), type := 23, pos := "store.go:50", after := #[], guard := none }) (v := ?_) rfl (by kernel_rfl) (by kernel_rfl) (by kernel_rfl) (fun _ _ _ h => h) (Or.inl ⟨by rfl, ?a6⟩) (by assumption) ?_
  case a6 => (intro w_ hSw; obtain ⟨p0, pk⟩ := hSw; go_simp; try with_reducible rfl)
  simp only [Act.put, List.setIfInBounds_toArray, List.set_cons_zero, List.set_cons_succ]
  refine wpAnyH_take (i := 5) (oi := { dst := some 13, op := Op.convert 23 9 (Operand.tmp 12), type := 9, pos := "store.go:50", after := #[{ on := 4, ground := Ground.data }], guard := none }) (v := ?_) rfl (by kernel_rfl) (by kernel_rfl) (by kernel_rfl) (fun _ _ _ h => h) (Or.inl ⟨by rfl, ?a7⟩) (by assumption) ?_
  case a7 => (intro w_ hSw; obtain ⟨p0, pk⟩ := hSw; have cv := unhide Hcv w_ pk; go_simp; try with_reducible rfl)
  simp only [Act.put, List.setIfInBounds_toArray, List.set_cons_zero, List.set_cons_succ]
  refine wpAnyH_ready (rs := [6]) (by kernel_rfl) (by simp) ?_
  refine AllReadyH.cons (o := { dst := some 14, op := Op.call { callee := Callee.value (Operand.func 52), args := #[Operand.tmp 11, Operand.tmp 13], argTypes := #[92, 9] }, type := 66, pos := "store.go:50", after := #[{ on := 3, ground := Ground.data }, { on := 5, ground := Ground.data }], guard := none }) rfl (fun K_ hK_ => ?_) AllReadyH.nil
  go_simp
  go_at_call 52
  refine (unhide Hk).mono ?_
  rintro e w1 ⟨v1, rfl, ho1, hb1⟩
  obtain ⟨s1, c1, e1⟩ := OwnV.form ho1
  rw [List.length_map, unhide HN] at e1
  subst e1
  have HO1 := hide ho1
  have HB1 := hide ((Below.refl w.heap.size w).drew.trans hb1)
  have q3 := cell_aside (S := none_) (unhide HC) (Aside.of_below (unhide HB1)) (fun h => h)
  have HX1 := hide ((unhide HXd).below hb1)
  clear ho1 hb1
  go_simp
  refine hK_.out _ _ (⟨q3, unhide HX1⟩) (fun hHeld => ?_)
  clear hK_ K_
  (try simp only [Act.put, List.setIfInBounds_toArray, List.set_cons_zero, List.set_cons_succ])
  refine wpAnyH_take (i := 7) (oi := { dst := some 15, op := Op.call { callee := Callee.builtin Builtin.len, args := #[Operand.tmp 14], argTypes := #[66] }, type := 3, pos := "store.go:50", after := #[{ on := 6, ground := Ground.data }], guard := none }) (v := ?_) rfl (by kernel_rfl) (by kernel_rfl) (by kernel_rfl) (fun _ _ _ h => h) (Or.inl ⟨by rfl, ?a8⟩) (by assumption) ?_
  case a8 => (intro w_ hSw; obtain ⟨_, _⟩ := hSw; go_simp; try with_reducible rfl)
  simp only [Act.put, List.setIfInBounds_toArray, List.set_cons_zero, List.set_cons_succ]
  refine wpAnyH_done (by kernel_rfl) ?_ _
  go_wp2
  go_loopw [5, 16] (fun lv ii wr => ∃ (i : Nat) (sl : Option Addr) (cl : Nat) (vs : List Value) (K : Set_), i ≤ n ∧ lv = .slice sl i cl ∧ ii = .int .i64 (i : Int) ∧ Hid (vs.length = i) ∧ Hid (OwnV 23 wr w.heap.size (.slice sl i cl) vs) ∧ Hid (∀ (j : Nat) (u : Value) (b : Bs), vs[j]? = some u → ls[j]? = some b → KeyEl K w.heap.size wr u b) ∧ Hid (OwnS wr w.heap.size (.slice s1 n c1) ls) ∧ Hid (∀ k, K k → k < wr.heap.size) ∧ Hid (∀ k, (Value.slice s1 n c1).ownBlock = some k → K k) ∧ Hid (∀ k, (Value.slice sl i cl).ownBlock = some k → ¬ K k) ∧ Hid (Below w.heap.size w wr)) (fun _ ii _ => n - (intOf ii).toNat)
  case atStart =>
    exact ⟨0, none, 0, [], fun k => (Value.slice s1 n c1).ownBlock = some k, by omega, rfl, rfl, rfl, own_nil _ _ _, fun j u b h => by simp at h, unhide HO1, fun k hk => (World.ownsRow.lt (unhide HO1) k hk).2, fun k hk => hk, fun k hk => by simp [Value.ownBlock] at hk, unhide HB1⟩
  case round =>
    clear HO1 HB1 q3
    obtain ⟨i, sl, cl, vs, K, hi, rfl, rfl, HVl, HR, HE, HO, HKl, HKV, HKn, HB⟩ := hrel
    by_cases hlt : i < n
    · obtain ⟨x, hx⟩ : ∃ x, ls[i]? = some x := ⟨_, List.getElem?_eq_getElem (by have := unhide HN; omega)⟩
      have f1 : decide ((i : Int) < (n : Int)) = true := by simp; omega
      have f1n : decide (i < n) = true := by simp; omega
      have j0 : (0 : Int) ≤ (i : Int) := by omega
      have j1 : (i : Int) < (n : Int) := by omega
      have hne0 : ls.map ks ≠ [] := by
        intro e
        have h1 : (ls.map ks).length = n := by rw [List.length_map]; exact unhide HN
        rw [e] at h1
        simp at h1
        omega
      obtain ⟨gk, ck, ek, _, _, hcell⟩ := OwnV.cellAt (unhide HO) hne0
      rw [List.length_map, unhide HN] at ek hcell
      simp only [Value.slice.injEq] at ek
      obtain ⟨es1, _, ec1⟩ := ek
      obtain ⟨sq, hsq⟩ : ∃ y : ByteArray, (⟨x.toArray⟩ : ByteArray) = y := ⟨_, rfl⟩
      have k0 : wr.cell? ⟨gk, i, none⟩ = some (.string sq) := by
        rw [hcell i hlt, List.getD_eq_getElem?_getD, List.getElem?_map, hx]
        show some (ks x) = _
        unfold ks
        rw [hsq]
      have hxs : sq.data.toList = x := by rw [← hsq]
      have hxl : sq.size = x.length := by rw [← hxs, Array.length_toList]; rfl
      obtain ⟨cp, w2, hcv, hbt, hb2, hsz2, hfr⟩ := conv_free wr sq
      rw [hxs] at hbt
      rw [hxl] at hfr
      obtain ⟨KN, hKN⟩ : ∃ y, sq.size = y := ⟨_, rfl⟩
      rw [← hxl, hKN] at hfr
      rw [hKN] at hcv hbt
      have hKe : KeyEl (fun k => K k ∨ k = wr.heap.size) w.heap.size w2 (.slice (some ⟨wr.heap.size, 0, none⟩) KN cp) x := ⟨hbt, fun k hk => by
        simp only [Value.ownBlock, Option.some.injEq] at hk
        exact ⟨by have := (unhide HB).size; omega, Or.inr hk.symm⟩, by rw [← hxl, hKN]; exact hfr⟩
      have HK2l : Hid (∀ k, (K k ∨ k = wr.heap.size) → k < w2.heap.size) := fun k hk => by
        rcases hk with hk | hk
        · have := unhide HKl k hk; omega
        · omega
      have HK2V : Hid (∀ k, (Value.slice s1 n c1).ownBlock = some k → (K k ∨ k = wr.heap.size)) := fun k hk => Or.inl (unhide HKV k hk)
      have HK2n : Hid (∀ k, (Value.slice sl i cl).ownBlock = some k → ¬ (K k ∨ k = wr.heap.size)) := fun k hk h => by
        rcases h with h | h
        · exact unhide HKn k hk h
        · have := (World.ownsRow.lt (unhide HR) k hk).2; omega
      obtain ⟨W3, hW3⟩ : ∃ y, w2.alloc (.cells #[.slice (some ⟨wr.heap.size, 0, none⟩) KN cp] 23) = y := ⟨_, rfl⟩
      have HY : Hid (ValsAt W3 (.slice (some ⟨w2.heap.size, 0, none⟩) 1 1) [.slice (some ⟨wr.heap.size, 0, none⟩) KN cp]) := by rw [← hW3]; exact vals_new w2 [.slice (some ⟨wr.heap.size, 0, none⟩) KN cp] 23
      have hb23 : Below w2.heap.size w2 W3 := by rw [← hW3]; exact (Below.refl _ _).alloc (Nat.le_refl _) _
      have hb3 : Below wr.heap.size wr W3 := hb2.trans (hb23.mono hb2.size)
      have HB3 := hide ((unhide HB).trans (hb3.mono (unhide HB).size))
      have HR3 := hide (OwnV.below (unhide HR) hb3)
      have HO3 := hide (OwnV.below (unhide HO) hb3)
      have HE3 : Hid (∀ (j : Nat) (u : Value) (b : Bs), vs[j]? = some u → ls[j]? = some b → KeyEl (fun k => K k ∨ k = wr.heap.size) w.heap.size W3 u b) := fun j u b h1 h2 => ((unhide HE j u b h1 h2).aside (S := none_) (Aside.of_below hb3) fun _ h => h.elim).mono fun k hk => Or.inl hk
      have HKe : Hid (KeyEl (fun k => K k ∨ k = wr.heap.size) w.heap.size W3 (.slice (some ⟨wr.heap.size, 0, none⟩) KN cp) x) := hKe.aside (S := none_) (Aside.of_below hb23) fun _ h => h.elim
      have HX := hide hx
      have HS23 : Hid (w2.heap.size ≤ W3.heap.size) := hb23.size
      subst es1
      clear hsz2 hne0 hx hcell hsq hxs hxl hbt hb2 hKN hb23 hb3 HR HO HKl HKV HKn HB HE hKe hfr ec1 ck
      go_wp2_with (first
        | (at_builtin; refine wpList_append_vals Ebb rfl _ _ rfl w.heap.size (.slice sl i cl) (.slice (some ⟨w2.heap.size, 0, none⟩) 1 1) vs [.slice (some ⟨wr.heap.size, 0, none⟩) KN cp] rfl (unhide HR3) rfl (unhide HY) (by simp [Value.oneCell']) (unhide HB3).size (by rw [unhide HVl]; simp; omega) ?_
           intro v5 W5 ho5 hg5 hor5
           obtain ⟨s5, c5, e5⟩ := ho5.form
           rw [List.length_append, unhide HVl, List.length_singleton] at e5
           subst e5
           have ha5 : Aside (fun k => (Value.slice sl i cl).ownBlock = some k) W3 W5 := Aside.of_grown hg5 fun _ h => h
           have HR5 := hide ho5
           have HO5 : Hid (OwnS W5 w.heap.size (.slice (some ⟨gk, 0, none⟩) n c1) ls) := OwnV.aside (unhide HO3) ha5 fun k hk h => unhide HK2n k h (unhide HK2V k hk)
           have HB5 : Hid (Below w.heap.size w W5) := (unhide HB3).trans (Aside.below ha5 (unhide HB3).size fun k hk => (World.ownsRow.lt (unhide HR3) k hk).1)
           have HK5l : Hid (∀ k, (K k ∨ k = wr.heap.size) → k < W5.heap.size) := fun k hk => by have h1 := unhide HK2l k hk; have h2 := unhide HS23; have h3 := ha5.size; omega
           have HK5n : Hid (∀ k, (Value.slice s5 (i + 1) c5).ownBlock = some k → ¬ (K k ∨ k = wr.heap.size)) := fun k hk h => by
             rcases hor5 with ho | ho
             · rw [ho] at hk; exact unhide HK2n k hk h
             · rw [ho] at hk
               simp only [Option.some.injEq] at hk
               have h1 := unhide HK2l k h
               have h2 := unhide HS23
               omega
           have HE5 : Hid (∀ (j : Nat) (u : Value) (b : Bs), (vs ++ [.slice (some ⟨wr.heap.size, 0, none⟩) KN cp])[j]? = some u → ls[j]? = some b → KeyEl (fun k => K k ∨ k = wr.heap.size) w.heap.size W5 u b) := fun j u b h1 h2 => by
             by_cases hj : j < vs.length
             · rw [List.getElem?_append_left hj] at h1
               exact (unhide HE3 j u b h1 h2).aside ha5 (unhide HK2n)
             · rw [List.getElem?_append_right (by omega)] at h1
               have hj2 : j = vs.length := by have := (List.getElem?_eq_some_iff.1 h1).1; simp at this; omega
               rw [hj2, Nat.sub_self, List.getElem?_cons_zero, Option.some.injEq] at h1
               rw [hj2, unhide HVl, unhide HX, Option.some.injEq] at h2
               subst h1
               subst h2
               exact (unhide HKe).aside ha5 (unhide HK2n)
           clear ho5 hg5 hor5 ha5))
      refine ⟨⟨i + 1, s5, c5, _, fun k => K k ∨ k = wr.heap.size, by omega, rfl, ?_, ?_, HR5, HE5, HO5, HK5l, HK2V, HK5n, HB5⟩, ?_⟩
      · simp
      · show _ = _; rw [List.length_append, unhide HVl]; rfl
      · simp [intOf]; omega
    · obtain rfl : i = n := by omega
      have f1 : decide ((i : Int) < (i : Int)) = false := by simp
      have HF : Hid (ListsAt w.heap.size wr (.slice sl i cl) vs ls) := ⟨(unhide HR).vals, fun k hk => (World.ownsRow.lt (unhide HR) k hk).1, by rw [unhide HVl, unhide HN], fun j u b h1 h2 => ⟨(unhide HE j u b h1 h2).at_, fun k hk => ((unhide HE j u b h1 h2).blk k hk).1, (unhide HE j u b h1 h2).free⟩⟩
      clear HR HE HO HKl HKV HKn
      go_wp2
      go_ret
      exact ⟨_, _, rfl, unhide HF, unhide HB⟩
end
end Go.Proofs.YtbjgknoipbekoaaGreat
namespace Go.Proofs.YtbjgknoipbekoaaGreat
open Go.RowKit
theorem slice_string (s : ByteArray) (k : Nat) (hk : k ≤ s.size) (w : World) : (Instr.sliceAt 9 (.string s) (some (.int .i64 (k : Int))) none none).run Tryz.prog w = .ok (ks (s.data.toList.drop k)) w := by
  rw [run_sliceAt_string w 9 _ _ _ _ Tryz.underlying9, run_slice_string_l w 9 s Tryz.underlying9 .i64 (k : Int) (by omega) (by omega), Int.toNat_natCast]
  have e : s.extract k s.size = ⟨(s.data.toList.drop k).toArray⟩ := by
    have h := Lib.extract_to_end s k
    rw [← h]
  unfold ks
  rw [e]
/-- What begins with a prefix has its length at least. -/
theorem keys_pre {ps : List (Bs × Bs)} {pre x : Bs} (h : x ∈ keysP ps pre) : pre.length ≤ x.length := by
  have h2 := (List.mem_filter.1 h).2
  exact (List.isPrefixOf_iff_prefix.1 h2).length_le
section
variable {LAt : Set_ → Set_ → World → Value → Value → LS → Prop}
set_option maxRecDepth 100000 in
set_option maxHeartbeats 4000000 in
theorem tnames_c {S R : Set_} {w : World} {tv t p : Value} {G : SS} {pre : ByteArray} {A0 : Nat} (h0 : TabAt w tv t pre A0) (h : SAt LAt S R w t p G) : Calls Tryz.prog 36 #[tv] w fun e w' => ∃ v, e = .returned v ∧ OwnS w' w.heap.size v ((keysP G.pairs pre.data.toList).map (·.drop pre.size)) ∧ Below w.heap.size w w' := by
  obtain ⟨A, B, V, l, S2, R2, rfl, hf, _, _⟩ := h
  obtain ⟨_, _, _, k3, _⟩ := srow5 hf.str
  have hbd : Below w.heap.size w w.drew := (Below.refl _ _).drew
  have Hk := hide (pkeys_c (hf.map.below hbd) hf.sorted (Nat.le_trans hf.few (by omega)) pre)
  have HT := hide h0
  have HBd := hide hbd
  obtain ⟨c0, c1, _, _⟩ := h0.cells
  obtain ⟨rfl, _⟩ := h0
  have HC := hide k3
  obtain ⟨PN, hPN⟩ : ∃ y, pre.size = y := ⟨_, rfl⟩
  have hpl : pre.data.toList.length = PN := by rw [← hPN]; rfl
  have HPre : Hid (∀ x ∈ keysP G.pairs pre.data.toList, PN ≤ x.length) := fun x hx => by rw [← hpl]; exact keys_pre hx
  rw [hPN]
  have HPN := hide hPN
  obtain ⟨ls, hls⟩ : ∃ y, keysP G.pairs pre.data.toList = y := ⟨_, rfl⟩
  rw [hls] at Hk HPre ⊢
  obtain ⟨n, hn⟩ : ∃ n, ls.length = n := ⟨_, rfl⟩
  have HN := hide hn
  have hnb : n ≤ 100000 := by rw [← hn, ← hls]; exact Nat.le_trans (keys_len _ _) hf.few
  clear hf hls hn hbd hPN hpl
  go_enter Tryz.func36, Tryz.ntmps36
  go_upto_region 2 with (fail)
  go_region_held3 (fun u => u.cell? ⟨A, 3, none⟩ = some (.map (some B)) ∧ u.cell? ⟨A0, 0, none⟩ = some (.pointer (some ⟨A, 0, none⟩)) ∧ u.cell? ⟨A0, 1, none⟩ = some (.string pre)) (go_keep)
    ((first
      | (go_at_call 52; refine (unhide Hk).mono ?_; rintro e w1 ⟨v1, rfl, ho1, hb1⟩
         obtain ⟨s1, q1, e1⟩ := OwnV.form ho1
         rw [List.length_map, unhide HN] at e1
         subst e1
         have HO1 := hide ho1
         have HB1 := hide ((unhide HBd).trans (hb1.mono (unhide HBd).size))
         have j3 := cell_aside (S := none_) (unhide HC) (Aside.of_below (unhide HB1)) (fun h => h)
         obtain ⟨j0, j1, _, _⟩ := ((unhide HT).below (unhide HB1)).cells
         clear ho1 hb1)))
  go_wp2_with (fail)
  have HO0 : Hid (OwnS w1 w.heap.size (.slice none 0 0) ((ls.take 0).map (·.drop PN))) := by rw [List.take_zero, List.map_nil]; exact own_nil _ _ _
  have HOl : Hid (OwnS w1 w.heap.size (.slice s1 n q1) ls) := OwnV.mono (unhide HO1) (unhide HBd).size
  go_loopw [3, 5, 19] (fun lv _ ii wr => ∃ (i : Nat) (sl : Option Addr) (cl : Nat), i ≤ n ∧ lv = .slice sl i cl ∧ ii = .int .i64 (i : Int) ∧ Hid (OwnS wr w.heap.size (.slice sl i cl) ((ls.take i).map (·.drop PN))) ∧ Hid (OwnS wr w.heap.size (.slice s1 n q1) ls) ∧ Hid (Apart (.slice sl i cl) (.slice s1 n q1)) ∧ Hid (Below w.heap.size w wr)) (fun _ _ ii _ => n - (intOf ii).toNat)
  case atStart => exact ⟨0, none, 0, Nat.zero_le _, rfl, rfl, HO0, HOl, fun k hk => by simp [Value.ownBlock] at hk, HB1⟩
  case round =>
    clear HO0 HOl HO1 HB1 Hk j3 j0 j1 c0 c1 k3
    obtain ⟨i, sl, cl, hi, rfl, rfl, HO, HL, HA, HB⟩ := hrel
    by_cases hlt : i < n
    · obtain ⟨x, hx⟩ : ∃ x, ls[i]? = some x := ⟨_, List.getElem?_eq_getElem (by have := unhide HN; omega)⟩
      have f1 : decide ((i : Int) < (n : Int)) = true := by simp; omega
      have f1n : decide (i < n) = true := by simp; omega
      have i0 : (0 : Int) ≤ (i : Int) := by omega
      have i1 : (i : Int) < (n : Int) := by omega
      have hne : ls.map ks ≠ [] := by intro e; have h9 := congrArg List.length e; rw [List.length_map, unhide HN] at h9; simp at h9; omega
      obtain ⟨gb, go, gc, e, _, _, hcell⟩ := ValsAt.cell (OwnV.vals (unhide HL)) hne
      simp only [Value.slice.injEq] at e
      obtain ⟨rfl, he1, rfl⟩ := e
      clear he1
      have hkx : (ls.map ks)[i]? = some (ks x) := by rw [List.getElem?_map, hx]; rfl
      have c2 := hcell i (by rw [List.length_map, unhide HN]; exact hlt)
      rw [List.getD_eq_getElem?_getD, hkx, Option.getD_some] at c2
      obtain ⟨sx, hsx⟩ : ∃ y : ByteArray, (⟨x.toArray⟩ : ByteArray) = y := ⟨_, rfl⟩
      have hke : ks x = .string sx := by unfold ks; rw [hsx]
      have hxs : sx.data.toList = x := by rw [← hsx]
      have hsz : sx.size = x.length := by rw [← hsx]; rfl
      have hpx := unhide HPre x (List.mem_of_getElem? hx)
      have hsl := slice_string sx PN (by omega)
      rw [hxs] at hsl
      rw [hke] at c2
      obtain ⟨sy, hsy⟩ : ∃ y : ByteArray, (⟨(x.drop PN).toArray⟩ : ByteArray) = y := ⟨_, rfl⟩
      have hky : ks (x.drop PN) = .string sy := by unfold ks; rw [hsy]
      rw [hky] at hsl
      have HT1 : Hid ((ls.take (i + 1)).map (·.drop PN) = (ls.take i).map (·.drop PN) ++ [x.drop PN]) := by show _ = _; rw [List.take_add_one, hx, List.map_append]; rfl
      have HKy := hide hky
      obtain ⟨c0, c1, _, _⟩ := ((unhide HT).below (unhide HB)).cells
      have hPNe := unhide HPN
      have hbA : Below wr.heap.size wr (wr.alloc (.cells #[.string sy] 9)) := (Below.refl _ _).alloc (Nat.le_refl _) _
      have HY : Hid (ValsAt (wr.alloc (.cells #[.string sy] 9)) (.slice (some ⟨wr.heap.size, 0, none⟩) 1 1) [.string sy]) := vals_new wr [.string sy] 9
      have HOA := hide (OwnV.below (unhide HO) hbA)
      have HLA := hide (OwnV.below (unhide HL) hbA)
      have HBA := hide ((unhide HB).trans (hbA.mono (unhide HB).size))
      clear hx hne hcell hkx hsx hke hxs hsz hpx hsy hky hbA HO HL
      go_wp2_with (at_builtin; refine wpList_append_vals Est rfl _ _ rfl w.heap.size (.slice sl i cl) (.slice (some ⟨wr.heap.size, 0, none⟩) 1 1) (((ls.take i).map (·.drop PN)).map ks) [.string sy] rfl (unhide HOA) rfl (unhide HY) (by simp [Value.oneCell']) (unhide HBA).size (by rw [List.length_map, List.length_map, List.length_take]; simp; omega) ?_
                   intro v3 w3 ho3 hg3 hor3
                   obtain ⟨s3, c3, e3⟩ := ho3.form
                   rw [List.length_append, List.length_map, List.length_map, List.length_take, unhide HN, Nat.min_eq_left (by omega), List.length_singleton] at e3
                   subst e3
                   have HO3 : Hid (OwnS w3 w.heap.size (.slice s3 (i + 1) c3) ((ls.take (i + 1)).map (·.drop PN))) := by
                     show OwnV _ _ _ _ _
                     rw [unhide HT1, List.map_append, List.map_singleton, unhide HKy]
                     exact ho3
                   have hgw : Grew _ (.slice sl i cl) w3 (.slice s3 (i + 1) c3) := ⟨hg3, hor3⟩
                   obtain ⟨hl3, ha3⟩ := hgw.kept (unhide HA) (unhide HLA)
                   have HL3 := hide hl3
                   have HA3 := hide ha3
                   have HB3 := hide (own_below (unhide HOA) hg3 (unhide HBA) (unhide HBA).size)
                   clear ho3 hg3 hor3 hgw hl3 ha3)
      exact ⟨⟨i + 1, s3, c3, hlt, rfl, by go_num, HO3, HL3, HA3, HB3⟩, by simp [intOf]; omega⟩
    · obtain rfl : i = n := by omega
      have f1 : decide ((i : Int) < (i : Int)) = false := by simp
      have f1n : decide (i < i) = false := by simp
      have HOe : Hid (OwnS wr w.heap.size (.slice sl i cl) (ls.map (·.drop PN))) := by
        have h := unhide HO
        rw [List.take_of_length_le (by rw [unhide HN]; exact Nat.le_refl _)] at h
        exact h
      clear HO
      go_wp2_with (fail)
      go_ret
      exact ⟨_, rfl, unhide HOe, unhide HB⟩
end
end Go.Proofs.YtbjgknoipbekoaaGreat
namespace Go.Proofs.YtbjgknoipbekoaaGreat
theorem names_of {LAt : Set_ → Set_ → World → Value → Value → LS → Prop} : NamesOf (SAt LAt) := fun _ _ _ _ _ _ _ _ _ ht h => tnames_c ht h
end Go.Proofs.YtbjgknoipbekoaaGreat
namespace Go.Proofs.YtbjgknoipbekoaaGreat
open Go.RowKit
section
variable {PAt : Set_ → Set_ → World → Value → PS → Prop} {LAt : Set_ → Set_ → World → Value → Value → LS → Prop} (HP : Plate PAt) (HW : Wal PAt LAt)
include HP in
set_option maxRecDepth 100000 in
theorem shalf_c {S R : Set_} {w : World} {p : Value} {s : PS} (hp : PAt S R w p s) (h4 : 4 ≤ s.safe.length) : Calls Tryz.prog 84 #[p] w fun e w' => e = .returned (.int .i64 (((s.safe.length - 2) / 2 : Nat) : Int)) ∧ Below w.heap.size w w' := by
  have hf := (HP.ok hp).few
  have Hs := hide (HP.sectors hp)
  obtain ⟨a, rfl⟩ := HP.ptr hp
  obtain ⟨n, hn⟩ : ∃ n, s.safe.length = n := ⟨_, rfl⟩
  rw [hn] at Hs hf h4 ⊢
  obtain ⟨n2, hn2⟩ : ∃ y, n - 2 = y := ⟨_, rfl⟩
  obtain ⟨h, hh⟩ : ∃ y, n2 / 2 = y := ⟨_, rfl⟩
  rw [hn2, hh]
  have e1 : (n : Int) - 2 = (n2 : Int) := by omega
  have e2 : (n2 : Int) / 2 = (h : Int) := by omega
  have e3 : (n2 : Int).tdiv 2 = (h : Int) := by rw [Int.tdiv_eq_ediv_of_nonneg (by omega)]; exact e2
  have b2 : n2 ≤ 16384 := by omega
  clear hp hn hn2 hh h4
  go_enter Tryz.func84, Tryz.ntmps84
  go_wp2_with (go_at_call 99; refine (unhide Hs).mono ?_; rintro e w1 ⟨rfl, hb1⟩; have HB1 := hide hb1; clear hb1)
  go_ret
  exact ⟨rfl, unhide HB1⟩
include HP in
set_option maxRecDepth 100000 in
theorem sroom_c {S R : Set_} {w : World} {p : Value} {s : PS} (hp : PAt S R w p s) (h4 : 4 ≤ s.safe.length) : Calls Tryz.prog 64 #[p] w fun e w' => e = .returned (.int .i64 (min (48 * (((s.safe.length - 2) / 2 : Nat) : Int) - 4) 65536)) ∧ Below w.heap.size w w' := by
  have hf := (HP.ok hp).few
  have Hs := hide (shalf_c HP hp h4)
  obtain ⟨a, rfl⟩ := HP.ptr hp
  obtain ⟨h, hh⟩ : ∃ y, (s.safe.length - 2) / 2 = y := ⟨_, rfl⟩
  have hb : h ≤ 8192 := by omega
  have h1 : 1 ≤ h := by omega
  rw [hh] at Hs ⊢
  obtain ⟨z, hz⟩ : ∃ z : Nat, 48 * h - 4 = z := ⟨_, rfl⟩
  obtain ⟨y, hy⟩ : ∃ y : Nat, h * 48 = y := ⟨_, rfl⟩
  have e1 : (h : Int) * 48 = (y : Int) := by omega
  have e2 : (y : Int) - 4 = (z : Int) := by omega
  have e3 : (48 : Int) * (h : Int) - 4 = (z : Int) := by omega
  have by_ : y ≤ 400000 := by omega
  have bz : z ≤ 400000 := by omega
  rw [e3]
  clear hp hh hf h4 hz hy e3
  by_cases hlt : z ≤ 65536
  · have d1 : min (z : Int) 65536 = (z : Int) := by omega
    have d2 : ¬ (65536 : Int) < (z : Int) := by omega
    rw [d1]
    go_enter Tryz.func64, Tryz.ntmps64
    go_wp2_with (go_at_call 84; refine (unhide Hs).mono ?_; rintro e w1 ⟨rfl, hb1⟩; have HB1 := hide hb1; clear hb1)
    all_goals (go_ret; exact ⟨rfl, unhide HB1⟩)
  · have d1 : min (z : Int) 65536 = 65536 := by omega
    have d2 : (65536 : Int) < (z : Int) := by omega
    rw [d1]
    go_enter Tryz.func64, Tryz.ntmps64
    go_wp2_with (go_at_call 84; refine (unhide Hs).mono ?_; rintro e w1 ⟨rfl, hb1⟩; have HB1 := hide hb1; clear hb1)
    all_goals (go_ret; exact ⟨rfl, unhide HB1⟩)
theorem from_eq (h g : Nat) : fromG h g = if g % 2 = 1 then 2 else 2 + h := by
  unfold fromG
  split
  · rw [show (g + 1) % 2 = 0 by omega]; omega
  · rw [show (g + 1) % 2 = 1 by omega]; omega
include HP in
set_option maxRecDepth 100000 in
theorem sfirst_c {S R : Set_} {w : World} {p : Value} {s : PS} (hp : PAt S R w p s) (h4 : 4 ≤ s.safe.length) (g : Nat) (hg : g ≤ 4294967296) {h : Nat} (hh : h = (s.safe.length - 2) / 2) : Calls Tryz.prog 86 #[p, .int .i64 (g : Int)] w fun e w' => e = .returned (.int .i64 ((fromG h g : Nat) : Int)) ∧ Below w.heap.size w w' := by
  have hf := (HP.ok hp).few
  have Hs := hide (shalf_c HP hp h4)
  rw [← hh] at Hs
  obtain ⟨a, rfl⟩ := HP.ptr hp
  have hb : h ≤ 8192 := by omega
  rw [from_eq]
  obtain ⟨m, hm⟩ : ∃ m, g % 2 = m := ⟨_, rfl⟩
  have e1 : (g : Int) % 2 = (m : Int) := by omega
  have e2 : (g : Int).tmod 2 = (m : Int) := by rw [Int.tmod_eq_emod_of_nonneg (by omega)]; exact e1
  rw [hm]
  clear hp hh hf h4
  by_cases h1 : m = 1
  · subst h1
    rw [if_pos rfl]
    clear hm
    go_enter Tryz.func86, Tryz.ntmps86
    go_wp2
    go_ret
    exact ⟨rfl, Below.refl _ _⟩
  · have h0 : m = 0 := by omega
    subst h0
    rw [if_neg (by omega)]
    have e3 : (2 : Int) + (h : Int) = ((2 + h : Nat) : Int) := by omega
    obtain ⟨z, hz⟩ : ∃ z, 2 + h = z := ⟨_, rfl⟩
    rw [hz] at e3 ⊢
    clear hm h1 hz
    go_enter Tryz.func86, Tryz.ntmps86
    go_wp2_with (go_at_call 84; refine (unhide Hs).mono ?_; rintro e w1 ⟨rfl, hb1⟩; have HB1 := hide hb1; clear hb1)
    go_ret
    exact ⟨rfl, unhide HB1⟩
include HP HW in
set_option maxRecDepth 100000 in
theorem sopenlog_c {S R : Set_} {w : World} {p : Value} {s : PS} (hp : PAt S R w p s) (h4 : 4 ≤ s.safe.length) (g : Nat) (hg1 : 1 ≤ g) (hg : g < 2147483648) {h : Nat} (hh : h = (s.safe.length - 2) / 2) (hd : s.down = false) (hl : s.loose.length ≤ 100000) : Calls Tryz.prog 66 #[p, .int .i64 (g : Int)] w fun e w' => ∃ l, e = .returned (.tuple #[l, .int .i64 0]) ∧ ∃ S2 R2, LAt S2 R2 w' l p (openL s (fromG h g) h g) ∧ (∀ k, S2 k ∨ R2 k → w.heap.size ≤ k) ∧ Below w.heap.size w w' := by
  have hf := (HP.ok hp).few
  have hfr := from_le h g
  have HPk := hide (fun w' (hb : Below w.heap.size w w') => HP.kept hp (T := none_) (Aside.of_below hb) fun _ hk => hk.elim)
  have H1 := hide (sfirst_c HP hp h4 g (by omega) hh)
  have H2 : Hid (∀ w', Below w.heap.size w w' → Calls Tryz.prog 84 #[p] w' fun e w2 => e = .returned (.int .i64 ((h : Nat) : Int)) ∧ Below w'.heap.size w' w2) := fun w' hb => by
    have := shalf_c HP (unhide HPk w' hb) h4
    rw [← hh] at this
    exact this
  obtain ⟨fr, hfr'⟩ : ∃ y, fromG h g = y := ⟨_, rfl⟩
  rw [hfr'] at hfr H1 ⊢
  have H3 : Hid (∀ w', Below w.heap.size w w' → Calls Tryz.prog 87 #[p, .int .i64 (fr : Int), .int .i64 ((fr + h : Nat) : Int), .int .i64 (g : Int)] w' fun e w2 => ∃ l, e = .returned (.tuple #[l, .int .i64 0]) ∧ ∃ S2 R2, LAt S2 R2 w2 l p (openL s fr h g) ∧ (∀ k, S2 k ∨ R2 k → w'.heap.size ≤ k) ∧ Below w'.heap.size w' w2) := fun w' hb => HW.open_yes fr h g (unhide HPk w' hb) (by omega) (by omega) hg1 hg hd hl
  obtain ⟨a, rfl⟩ := HP.ptr hp
  obtain ⟨z, hz⟩ : ∃ z, fr + h = z := ⟨_, rfl⟩
  have e3 : (fr : Int) + (h : Int) = (z : Int) := by omega
  rw [hz] at H3
  have bfr : fr ≤ 100000 := by omega
  have bh : h ≤ 100000 := by omega
  clear hp hh hf h4 hz hfr hfr' hd hl HPk
  go_enter Tryz.func66, Tryz.ntmps66
  go_wp2_with (first
    | (go_at_call 86; refine (unhide H1).mono ?_; rintro e w1 ⟨rfl, hb1⟩; have HB1 := hide hb1; clear hb1)
    | (go_at_call 84; refine (unhide H2 _ (unhide HB1)).mono ?_; rintro e w2 ⟨rfl, hb2⟩; have HB2 := hide ((unhide HB1).trans (hb2.mono (unhide HB1).size)); clear hb2)
    | (go_at_call 87; refine (unhide H3 _ (unhide HB2)).mono ?_; rintro e w3 ⟨l, rfl, S2, R2, hl3, hn3, hb3⟩; have HL3 := hide hl3; have HN3 := hide hn3; have HB3 := hide ((unhide HB2).trans (hb3.mono (unhide HB2).size)); have HS3 := hide (unhide HB2).size; obtain ⟨la, hla⟩ := HW.ptr hl3; subst hla; clear hl3 hn3 hb3))
  go_ret2
  exact ⟨_, rfl, S2, R2, unhide HL3, fun k hk => Nat.le_trans (unhide HS3) (unhide HN3 k hk), unhide HB3⟩
set_option maxRecDepth 100000 in
theorem splace_c (w : World) (g : Nat) (hg : g ≤ 4294967296) : Calls Tryz.prog 81 #[.int .i64 (g : Int)] w fun e w' => e = .returned (.int .i64 ((g % 2 : Nat) : Int)) ∧ w' = w := by
  obtain ⟨m, hm⟩ : ∃ m, g % 2 = m := ⟨_, rfl⟩
  have e1 : (g : Int) % 2 = (m : Int) := by omega
  have e2 : (g : Int).tmod 2 = (m : Int) := by rw [Int.tmod_eq_emod_of_nonneg (by omega)]; exact e1
  have hm2 : m < 2 := by omega
  rw [hm]
  clear hm
  go_enter Tryz.func81, Tryz.ntmps81
  go_wp2
  go_ret
  exact ⟨rfl, rfl⟩
theorem not_i64 (g : Nat) (hg : g ≤ 4294967296) : bits .xor .i64 (-1) (g : Int) = -(g : Int) - 1 := by
  show IntKind.i64.wrap ((BitVec.ofInt 64 (-1) ^^^ BitVec.ofInt 64 (g : Int)).toNat : Int) = _
  rw [show BitVec.ofInt 64 (-1) = BitVec.allOnes 64 by decide, BitVec.allOnes_xor, BitVec.toNat_not, ofInt_i64 g (by omega), IntKind.wrap_i64]
  omega
set_option maxRecDepth 100000 in
theorem smark_c (w : World) (g : Nat) (hg : g ≤ 4294967296) : GivesB w 83 #[.int .i64 (g : Int)] (markB g) := by
  obtain ⟨w2, hmk, hR2, hb2⟩ := made64 w
  have HB2 := hide hb2
  have Ha := hide (saddn_room w2 w.heap.size [] (bigB g 4) 0 4 (g : Int) rfl hR2 (bigof_nat g 4) (big_len _ _) (by omega) (by omega) (by omega) (by omega) (by omega))
  rw [List.nil_append] at Ha
  obtain ⟨z, hz⟩ : ∃ z : Int, -(g : Int) - 1 = z := ⟨_, rfl⟩
  have Hb : Hid (∀ w', RoomAt w' w.heap.size (bigB g 4) → Calls Tryz.prog 89 #[.slice (some ⟨w.heap.size, 0, none⟩) 4 64, .int .i64 4, .int .i64 z] w' fun e w3 => e = .returned (.slice (some ⟨w.heap.size, 0, none⟩) 8 64) ∧ RoomAt w3 w.heap.size (bigB g 4 ++ (bigB g 4).map fun x => 255 - x) ∧ Aside (fun k => k = w.heap.size) w' w3) := fun w' h => by
    have := saddn_room w' w.heap.size (bigB g 4) ((bigB g 4).map fun x => 255 - x) 4 4 (-(g : Int) - 1) (big_len _ _) h (bigof_not g 4) (by rw [List.length_map, big_len]) (by omega) (by omega) (by omega) (by omega) (by omega)
    rw [hz] at this
    exact this
  have hs := fun w' => slice64 w.heap.size 8 w'
  have hx := not_i64 g hg
  rw [hz] at hx
  have HM : Hid (∀ w3, RoomAt w3 w.heap.size (bigB g 4 ++ (bigB g 4).map fun x => 255 - x) → OwnB w3 w.heap.size (.slice (some ⟨w.heap.size, 0, none⟩) 64 64) (markB g)) := fun w3 h => by
    have h1 := h.whole (Nat.le_refl _)
    have e8 : (bigB g 4 ++ (bigB g 4).map fun x => 255 - x).length = 8 := by rw [List.length_append, List.length_map, big_len]
    rw [e8] at h1
    exact h1
  clear hR2 hb2 hz
  go_enter Tryz.func83, Tryz.ntmps83
  go_wp2_with (first
    | (go_at_call_of 89 (Value.int IntKind.i64 (g : Int)); refine (unhide Ha).mono ?_; rintro e w3 ⟨rfl, hR3, ha3⟩; have HR3 := hide hR3; have HA3 := hide ha3; clear hR3 ha3)
    | (go_at_call_of 89 (Value.int IntKind.i64 z); refine (unhide Hb _ (unhide HR3)).mono ?_; rintro e w4 ⟨rfl, hR4, ha4⟩; have HR4 := hide hR4; have HA4 := hide ((unhide HA3).trans ha4 fun _ _ h => h); clear hR4 ha4))
  go_ret
  exact ⟨_, rfl, unhide HM _ (unhide HR4), (unhide HB2).trans (Aside.below (unhide HA4) (unhide HB2).size fun k hk => by omega)⟩
end
end Go.Proofs.YtbjgknoipbekoaaGreat
