/-
  The walk of the reference's value.
-/
import Derived.Test.YtngkidlgcdofhaaDoorMV
import Derived.Deep.RegionHeld3
import Derived.Deep.RegionLaw
import Derived.Deep.Cut
namespace Go.Proofs.YtngkidlgcdofhaaDoor
open Go.RowKit
/-- Where a reader stands. -/
def atOf (wr : World) (K2 : Nat) : Nat := match wr.cell? ⟨K2, 1, none⟩ with | some (.int _ n) => n.toNat | _ => 0
theorem RAt.atOf {w : World} {K : Nat} {sb : Option Addr} {cb : Nat} {b : Bs} {s en : Nat} (h : RAt w K sb cb b s en) : atOf w K = s := by unfold Go.Proofs.YtngkidlgcdofhaaDoor.atOf; rw [h.c.2.1]; rfl
set_option maxRecDepth 100000 in
set_option maxHeartbeats 40000000 in
theorem values_succ (f : Nat) (ih : Values f) : Values (f + 1) := fun w K sb cb b s en d hd h => by
  have H0 := hide h
  have Hih := hide ih
  obtain ⟨w1, hw1⟩ : ∃ w1, w.alloc (.cells #[.int .i64 0, .int .i64 0, .bool false, .slice none 0 0, .slice none 0 0] 32) = w1 := ⟨_, rfl⟩
  have hb1 : Below w.heap.size w w1 := by rw [← hw1]; exact (Below.refl _ _).alloc (Nat.le_refl _) _
  have Hg1 : Hid (w.grownBy w1 (some K)) := by show World.grownBy _ _ _; rw [← hw1]; exact grown_alloc (World.grownBy.refl _ _) _
  have HA1 : Hid (w1.heap[w.heap.size]? = some (.cells dzero 32 (0, 0))) := by show _ = _; rw [← hw1]; exact heap_alloc_new w _
  have Hs1 : Hid (w1.heap.size = w.heap.size + 1) := by show _ = _; rw [← hw1]; simp
  have Htag := hide (tag_any w1 K sb cb b s en (h.below hb1))
  have Hba : Hid (b ≠ [] → ∀ x, sb = some x → x.block < w.heap.size) := fun hb x hx => h.old hb x hx
  have HKA : Hid (K < w.heap.size) := h.lt
  obtain ⟨A, hA⟩ : ∃ A, w.heap.size = A := ⟨_, rfl⟩
  have HA := hide hA
  rw [hA] at HA1 Hs1 Hba HKA
  have hsz5 : (Tryd.prog.info? 32).map (·.size) = some 5 := by kernel_rfl
  have H5 : Hid ((dzero : Array Value).all (·.oneCell') = true) := by show _ = true; simp [dzero, Value.oneCell']
  have hle := h.le
  have hfit := h.fit
  have hsm := h.small
  have enb : (en : Int) ≤ 65536 := by omega
  obtain ⟨N, hN⟩ : ∃ N, b.length = N := ⟨_, rfl⟩
  have HN := hide hN
  have x16 : decide ((16 : Int) < (d : Int)) = false := by simp; omega
  have x16n : decide (16 < d) = false := by simp; omega
  have db : (d : Int) ≤ 17 := by omega
  have Hd := hide hd
  clear h ih hb1 hN hd
  go_enter Tryd.func20, Tryd.ntmps20
  go_wp2_with fail
  refine (unhide Htag).mono ?_
  rintro e w2 ⟨c, t, m, er, s1, rfl, htold, hs1, hr2, hg2⟩
  clear Htag hw1
  have Hr2 := hide hr2
  have Hg2 := hide (grown_trans (unhide Hg1) hg2)
  have HA2 : Hid (w2.heap[A]? = some (.cells dzero 32 (0, 0))) := by show _ = _; rw [hg2.block A (by have := unhide Hs1; omega) (fun e => by have := Option.some.inj e; have := unhide HKA; omega)]; exact unhide HA1
  have HV2 : Hid (A < w2.heap.size) := by show _ < _; have := hg2.size; have := unhide Hs1; omega
  have hs1e := hr2.le
  obtain ⟨V, hV⟩ : ∃ V, w2.heap.size = V := ⟨_, rfl⟩
  have HQ3 : Hid (QAt w (w2.alloc (.cells #[.int .i64 c, .int .i64 t, .bool m, .slice none 0 0, .slice none 0 0] 32)) K A V sb cb b s1 en #[.int .i64 c, .int .i64 t, .bool m, .slice none 0 0, .slice none 0 0]) := by
    have hAw : A < w2.heap.size := unhide HV2
    refine ⟨?_, ?_, ?_, ?_, unhide HKA, (unhide HA).symm, by omega, unhide Hba⟩
    · exact hr2.below ((Below.refl _ _).alloc (Nat.le_refl _) _)
    · exact grown_alloc (unhide Hg2) _
    · rw [heap_alloc_old w2 _ hAw]; exact unhide HA2
    · rw [← hV]; exact heap_alloc_new w2 _
  clear hr2 hg2 HA2 HV2 Hr2 Hg2 Hg1 HA1 Hs1
  unfold TagTold at htold
  cases htag : tagP (leftB b s en) with
  | no x =>
    rw [htag] at htold
    obtain ⟨rfl, rfl, rfl, rfl⟩ := htold
    have hx0 := tag_pos htag
    have d1 : ((x : Int) == 0) = false := by simp; omega
    have d1' : ((x : Int) != 0) = true := by simp; omega
    have Htg := hide htag
    have HQe := hide ((unhide HQ3))
    obtain ⟨e1, e2, e3⟩ := (unhide HQe).fin dzero
    have E1 := hide e1
    have E2 := hide e2
    have E3 := hide e3
    have HAd : Hid (((w2.alloc (.cells #[.int .i64 0, .int .i64 0, .bool false, .slice none 0 0, .slice none 0 0] 32))).heap[A]? = some (.cells dzero 32 (0, 0))) := (unhide HQe).res
    have HTT : Hid (∀ w', ValueTold (f + 1) w' w.heap.size b s en dzero.toList (x : Int) s1) := fun w' => by unfold ValueTold; rw [value_open1 (unhide Htg)]; exact ⟨rfl, rfl⟩
    clear e1 e2 e3 HQe
    clear htag Htg
    go_wp2_with (first | (refine wpList_store_row rfl 32 _ _ rfl A dzero rfl rfl 32 _ (unhide HAd) hsz5 rfl (unhide H5) ?_))
    exact bodyPost_ret (results_row_tmp Tryd.results20 _ _ A 32 _ (0, 0) _ rfl (unhide E3) Tryd.underlying32 rfl hsz5 (.int .i64 (x : Int)) rfl) rfl ⟨dzero.toList, (x : Int), s1, rfl, unhide HTT _, hs1, unhide E1, unhide E2⟩
  | yes q =>
    obtain ⟨c', t', m', l1⟩ := q
    rw [htag] at htold
    obtain ⟨rfl, rfl, rfl, rfl, rfl⟩ := htold
    have Htg := hide htag
    have Hlen := hide (length_any (w2.alloc (.cells #[.int .i64 (c' : Int), .int .i64 (t' : Int), .bool m, .slice none 0 0, .slice none 0 0] 32)) K sb cb b s1 en (unhide HQ3).rd)
    clear htag
    go_wp2_with fail
    refine (unhide Hlen).mono ?_
    rintro e w4 ⟨n, er, s2, rfl, hlt, hs2, hr4, hg4⟩
    have HQ4 := hide ((unhide HQ3).read hg4 hr4)
    have hs2e := hr4.le
    clear Hlen HQ3 hr4 hg4
    unfold LenTold at hlt
    cases hlen : lenP (leftB b s1 en) with
    | no x =>
      rw [hlen] at hlt
      obtain ⟨rfl, rfl⟩ := hlt
      have hx0 := length_pos hlen
      have d1 : ((x : Int) == 0) = false := by simp; omega
      have d1' : ((x : Int) != 0) = true := by simp; omega
      have Hln := hide hlen
      clear hlen
      have HQe := hide ((unhide HQ4))
      obtain ⟨e1, e2, e3⟩ := (unhide HQe).fin dzero
      have E1 := hide e1
      have E2 := hide e2
      have E3 := hide e3
      have HAd : Hid ((w4).heap[A]? = some (.cells dzero 32 (0, 0))) := (unhide HQe).res
      have HTT : Hid (∀ w', ValueTold (f + 1) w' w.heap.size b s en dzero.toList (x : Int) s2) := fun w' => by unfold ValueTold; rw [value_open2 (unhide Htg) (unhide Hln)]; exact ⟨rfl, rfl⟩
      clear e1 e2 e3 HQe
      clear Htg Hln
      go_wp2_with (first | (refine wpList_store_row rfl 32 _ _ rfl A dzero rfl rfl 32 _ (unhide HAd) hsz5 rfl (unhide H5) ?_))
      exact bodyPost_ret (results_row_tmp Tryd.results20 _ _ A 32 _ (0, 0) _ rfl (unhide E3) Tryd.underlying32 rfl hsz5 (.int .i64 (x : Int)) rfl) rfl ⟨dzero.toList, (x : Int), s2, rfl, unhide HTT _, by omega, unhide E1, unhide E2⟩
    | yes q2 =>
      obtain ⟨n', l2⟩ := q2
      rw [hlen] at hlt
      obtain ⟨rfl, rfl, rfl⟩ := hlt
      obtain ⟨z0, z1, z2, z3⟩ := (unhide HQ4).rd.c
      rw [unhide HN] at z0
      have hnb := (len_back hlen).2
      have Hv := hide (value_open3 (f := f) (unhide Htg) hlen)
      rw [len_leftB hfit] at Hv
      have hs12 : s < s2 := by
        have e1 := congrArg List.length (tag_back (unhide Htg)).2.2
        have e2 := congrArg List.length (len_back hlen).1
        have e3 := len_tagB c' t' m
        have e4 := len_lenB n'
        rw [List.length_append, len_leftB hfit, len_leftB hfit] at e1
        rw [List.length_append, len_leftB hfit, len_leftB hfit] at e2
        omega
      have s2b : (s2 : Int) ≤ 65536 := by omega
      have nb : (n' : Int) ≤ 4294967296 := by omega
      obtain ⟨D, hD⟩ : ∃ D, en - s2 = D := ⟨_, rfl⟩
      have eD : (en : Int) - (s2 : Int) = (D : Int) := by omega
      have uD : IntKind.i64.wrap (D : Int) = (D : Int) := IntWalk.i64_in _ (by omega)
      have hct := (tag_back (unhide Htg))
      have Hct : Hid (c' ≤ 3 ∧ t' < 2097152) := ⟨hct.1, hct.2.1⟩
      have HD := hide hD
      rw [hD] at Hv
      clear hlen Htg hct hD
      by_cases hDn : D < n'
      case pos =>
        have d1 : decide ((D : Int) < (n' : Int)) = true := by simp; omega
        have d1n : decide (D < n') = true := by simp; omega
        have Hv2 : Hid (valueP formD (f + 1) (leftB b s en) = .no 20) := by show _ = _; rw [unhide Hv, if_pos hDn]
        have HQe := hide ((unhide HQ4).drew)
        obtain ⟨e1, e2, e3⟩ := (unhide HQe).fin dzero
        have E1 := hide e1
        have E2 := hide e2
        have E3 := hide e3
        have HAd : Hid ((w4.drew).heap[A]? = some (.cells dzero 32 (0, 0))) := (unhide HQe).res
        have HTT : Hid (∀ w', ValueTold (f + 1) w' w.heap.size b s en dzero.toList 20 s2) := fun w' => by unfold ValueTold; rw [unhide Hv2]; exact ⟨rfl, rfl⟩
        clear e1 e2 e3 HQe
        clear Hv Hv2
        go_wp2
        go_region_held3 (fun w' => w'.cell? ⟨K, 1, none⟩ = some (.int .i64 (s2 : Int)) ∧ w'.cell? ⟨K, 2, none⟩ = some (.int .i64 (en : Int))) (go_keep) (fail)
        go_wp2_with (first | (refine wpList_store_row rfl 32 _ _ rfl A dzero rfl rfl 32 _ (unhide HAd) hsz5 rfl (unhide H5) ?_))
        exact bodyPost_ret (results_row_tmp Tryd.results20 _ _ A 32 _ (0, 0) _ rfl (unhide E3) Tryd.underlying32 rfl hsz5 (.int .i64 20) rfl) rfl ⟨dzero.toList, 20, s2, rfl, unhide HTT _, by omega, unhide E1, unhide E2⟩
      have d1 : decide ((D : Int) < (n' : Int)) = false := by simp; omega
      have d1n : decide (D < n') = false := by simp; omega
      obtain ⟨E, hE⟩ : ∃ E, s2 + n' = E := ⟨_, rfl⟩
      have eE : (s2 : Int) + (n' : Int) = (E : Int) := by omega
      have HE := hide hE
      have hEe : E ≤ en := by have := unhide HD; omega
      have Eb : (E : Int) ≤ 65536 := by omega
      have uE : IntKind.i64.wrap (E : Int) = (E : Int) := IntWalk.i64_in _ (by omega)
      have hv2 := unhide Hv
      rw [if_neg hDn, show n' = E - s2 by omega, left_take (by omega) hEe, left_drop, show s2 + (E - s2) = E by omega] at hv2
      have Hv2 := hide hv2
      clear Hv hv2 hE
      cases m with
      | false =>
        simp only [Bool.false_eq_true, if_false, if_true] at Hv2
        have HQ5 := hide (unhide HQ4).drew
        obtain ⟨v2, _⟩ := (unhide HQ5).cell 2 (.bool false) rfl
        have hKV : K ≠ V := by have := (unhide HQ4).ka; have := (unhide HQ4).av; omega
        have HVK : Hid (V ≠ K) := fun e => hKV e.symm
        obtain ⟨sy, cy, hsl, hpart⟩ := part_left (unhide HN) (by have := (unhide HQ5).rd.bytes; rw [unhide HN] at this; exact this) (unhide HE) (by have := unhide HN; omega)
        have Hpart : Hid (∀ w', BytesAt w' (.slice sb N cb) b → BytesAt w' (.slice sy n' cy) (leftB b s2 E)) := hpart
        have HR6 : Hid (Row w4.drew.drew (w4.drew.drew.alloc (.cells #[] 5)) (.slice (some ⟨w4.drew.drew.heap.size, 0, none⟩) 0 0) []) := ⟨ownb_empty _, (Below.refl _ _).alloc (Nat.le_refl _) _⟩
        have HB6 : Hid (BytesAt (w4.drew.drew.alloc (.cells #[] 5)) (.slice sy n' cy) (leftB b s2 E)) := hpart _ (by have := ((unhide HQ5).rd.bytes.drew).below ((Below.refl _ _).alloc (Nat.le_refl _) (.cells #[] 5)); rw [unhide HN] at this; exact this)
        have Hll : Hid (([] : Bs).length + (leftB b s2 E).length ≤ 1073741824) := by show _ ≤ _; rw [len_leftB (by have := unhide HN; omega)]; simp; omega
        have HLl : Hid ((leftB b s2 E).length = n') := by show _ = _; rw [len_leftB (by have := unhide HN; omega)]; have := unhide HE; omega
        clear HQ4 hpart
        go_wp2
        go_region_held3 (fun w' => w'.cell? ⟨K, 1, none⟩ = some (.int .i64 (s2 : Int)) ∧ w'.cell? ⟨K, 2, none⟩ = some (.int .i64 (en : Int))) (go_keep) (fail)
        go_wp2
        refine wp_region_held_drew (S := fun w' => w'.cell? ⟨K, 0, none⟩ = some (.slice sb N cb) ∧ w'.cell? ⟨K, 1, none⟩ = some (.int .i64 (s2 : Int))) (by kernel_rfl) ?rbS (fun hHeld => ?_)
        case rbS => (try dsimp only); (go_keep)
        refine wpAnyH_take (i := 1) (oi := { dst := some 54, op := Op.move (Operand.tmp 0), type := 50, pos := "ref.go:285", after := #[], guard := none }) (v := ?_) rfl (by kernel_rfl) (by kernel_rfl) (by kernel_rfl) (fun _ _ _ h => h) (Or.inl ⟨by rfl, ?rby1⟩) (by assumption) ?_
        case rby1 => (intro w_ hSw; (try dsimp only at hSw); go_simp; try with_reducible rfl)
        simp only [Act.put, List.setIfInBounds_toArray, List.set_cons_zero, List.set_cons_succ]
        refine wpAnyH_take (i := 2) (oi := { dst := some 55, op := Op.nilCheck (Operand.tmp 54), type := 0, pos := "ref.go:285", after := #[{ on := 1, ground := Ground.data }], guard := none }) (v := ?_) rfl (by kernel_rfl) (by kernel_rfl) (by kernel_rfl) (fun _ _ _ h => h) (Or.inl ⟨by rfl, ?rby2⟩) (by assumption) ?_
        case rby2 => (intro w_ hSw; (try dsimp only at hSw); go_simp; try with_reducible rfl)
        simp only [Act.put, List.setIfInBounds_toArray, List.set_cons_zero, List.set_cons_succ]
        refine wpAnyH_take (i := 3) (oi := { dst := some 56, op := Op.fieldAddr 52 (Operand.tmp 55) 0, type := 0, pos := "ref.go:285", after := #[{ on := 2, ground := Ground.data }], guard := none }) (v := ?_) rfl (by kernel_rfl) (by kernel_rfl) (by kernel_rfl) (fun _ _ _ h => h) (Or.inl ⟨by rfl, ?rby3⟩) (by assumption) ?_
        case rby3 => (intro w_ hSw; (try dsimp only at hSw); go_simp; try with_reducible rfl)
        simp only [Act.put, List.setIfInBounds_toArray, List.set_cons_zero, List.set_cons_succ]
        refine wpAnyH_take (i := 4) (oi := { dst := some 57, op := Op.load 22 (Operand.tmp 56), type := 22, pos := "ref.go:285", after := #[{ on := 3, ground := Ground.data }], guard := none }) (v := ?_) rfl (by kernel_rfl) (by kernel_rfl) (by kernel_rfl) (fun _ _ _ h => h) (Or.inl ⟨by rfl, ?rby4⟩) (by assumption) ?_
        case rby4 => (intro w_ hSw; (try dsimp only at hSw); go_simp; try with_reducible rfl)
        simp only [Act.put, List.setIfInBounds_toArray, List.set_cons_zero, List.set_cons_succ]
        refine wpAnyH_take (i := 5) (oi := { dst := some 58, op := Op.move (Operand.tmp 0), type := 50, pos := "ref.go:285", after := #[], guard := none }) (v := ?_) rfl (by kernel_rfl) (by kernel_rfl) (by kernel_rfl) (fun _ _ _ h => h) (Or.inl ⟨by rfl, ?rby5⟩) (by assumption) ?_
        case rby5 => (intro w_ hSw; (try dsimp only at hSw); go_simp; try with_reducible rfl)
        simp only [Act.put, List.setIfInBounds_toArray, List.set_cons_zero, List.set_cons_succ]
        refine wpAnyH_take (i := 6) (oi := { dst := some 59, op := Op.nilCheck (Operand.tmp 58), type := 0, pos := "ref.go:285", after := #[{ on := 5, ground := Ground.data }], guard := none }) (v := ?_) rfl (by kernel_rfl) (by kernel_rfl) (by kernel_rfl) (fun _ _ _ h => h) (Or.inl ⟨by rfl, ?rby6⟩) (by assumption) ?_
        case rby6 => (intro w_ hSw; (try dsimp only at hSw); go_simp; try with_reducible rfl)
        simp only [Act.put, List.setIfInBounds_toArray, List.set_cons_zero, List.set_cons_succ]
        refine wpAnyH_take (i := 7) (oi := { dst := some 60, op := Op.fieldAddr 52 (Operand.tmp 59) 1, type := 0, pos := "ref.go:285", after := #[{ on := 6, ground := Ground.data }], guard := none }) (v := ?_) rfl (by kernel_rfl) (by kernel_rfl) (by kernel_rfl) (fun _ _ _ h => h) (Or.inl ⟨by rfl, ?rby7⟩) (by assumption) ?_
        case rby7 => (intro w_ hSw; (try dsimp only at hSw); go_simp; try with_reducible rfl)
        simp only [Act.put, List.setIfInBounds_toArray, List.set_cons_zero, List.set_cons_succ]
        refine wpAnyH_take (i := 8) (oi := { dst := some 61, op := Op.load 3 (Operand.tmp 60), type := 3, pos := "ref.go:285", after := #[{ on := 7, ground := Ground.data }], guard := none }) (v := ?_) rfl (by kernel_rfl) (by kernel_rfl) (by kernel_rfl) (fun _ _ _ h => h) (Or.inl ⟨by rfl, ?rby8⟩) (by assumption) ?_
        case rby8 => (intro w_ hSw; (try dsimp only at hSw); go_simp; try with_reducible rfl)
        simp only [Act.put, List.setIfInBounds_toArray, List.set_cons_zero, List.set_cons_succ]
        refine wpAnyH_take (i := 9) (oi := { dst := some 62, op := Op.move (Operand.tmp 0), type := 50, pos := "ref.go:285", after := #[], guard := none }) (v := ?_) rfl (by kernel_rfl) (by kernel_rfl) (by kernel_rfl) (fun _ _ _ h => h) (Or.inl ⟨by rfl, ?rby9⟩) (by assumption) ?_
        case rby9 => (intro w_ hSw; (try dsimp only at hSw); go_simp; try with_reducible rfl)
        simp only [Act.put, List.setIfInBounds_toArray, List.set_cons_zero, List.set_cons_succ]
        refine wpAnyH_take (i := 10) (oi := { dst := some 63, op := Op.nilCheck (Operand.tmp 62), type := 0, pos := "ref.go:285", after := #[{ on := 9, ground := Ground.data }], guard := none }) (v := ?_) rfl (by kernel_rfl) (by kernel_rfl) (by kernel_rfl) (fun _ _ _ h => h) (Or.inl ⟨by rfl, ?rby10⟩) (by assumption) ?_
        case rby10 => (intro w_ hSw; (try dsimp only at hSw); go_simp; try with_reducible rfl)
        simp only [Act.put, List.setIfInBounds_toArray, List.set_cons_zero, List.set_cons_succ]
        refine wpAnyH_take (i := 11) (oi := { dst := some 64, op := Op.fieldAddr 52 (Operand.tmp 63) 1, type := 0, pos := "ref.go:285", after := #[{ on := 10, ground := Ground.data }], guard := none }) (v := ?_) rfl (by kernel_rfl) (by kernel_rfl) (by kernel_rfl) (fun _ _ _ h => h) (Or.inl ⟨by rfl, ?rby11⟩) (by assumption) ?_
        case rby11 => (intro w_ hSw; (try dsimp only at hSw); go_simp; try with_reducible rfl)
        simp only [Act.put, List.setIfInBounds_toArray, List.set_cons_zero, List.set_cons_succ]
        refine wpAnyH_take (i := 12) (oi := { dst := some 65, op := Op.load 3 (Operand.tmp 64), type := 3, pos := "ref.go:285", after := #[{ on := 11, ground := Ground.data }], guard := none }) (v := ?_) rfl (by kernel_rfl) (by kernel_rfl) (by kernel_rfl) (fun _ _ _ h => h) (Or.inl ⟨by rfl, ?rby12⟩) (by assumption) ?_
        case rby12 => (intro w_ hSw; (try dsimp only at hSw); go_simp; try with_reducible rfl)
        simp only [Act.put, List.setIfInBounds_toArray, List.set_cons_zero, List.set_cons_succ]
        refine wpAnyH_take (i := 13) (oi := { dst := some 66, op := Op.move (Operand.tmp 8), type := 3, pos := "ref.go:285", after := #[], guard := none }) (v := ?_) rfl (by kernel_rfl) (by kernel_rfl) (by kernel_rfl) (fun _ _ _ h => h) (Or.inl ⟨by rfl, ?rby13⟩) (by assumption) ?_
        case rby13 => (intro w_ hSw; (try dsimp only at hSw); go_simp; try with_reducible rfl)
        simp only [Act.put, List.setIfInBounds_toArray, List.set_cons_zero, List.set_cons_succ]
        refine wpAnyH_take (i := 14) (oi := { dst := some 67, op := Op.binOp BinOp.add 3 (Operand.tmp 65) (Operand.tmp 66) 3, type := 3, pos := "ref.go:285", after := #[{ on := 12, ground := Ground.data }, { on := 13, ground := Ground.data }], guard := none }) (v := ?_) rfl (by kernel_rfl) (by kernel_rfl) (by kernel_rfl) (fun _ _ _ h => h) (Or.inl ⟨by rfl, ?rby14⟩) (by assumption) ?_
        case rby14 => (intro w_ hSw; (try dsimp only at hSw); go_simp; try with_reducible rfl)
        simp only [Act.put, List.setIfInBounds_toArray, List.set_cons_zero, List.set_cons_succ]
        refine wpAnyH_take (i := 15) (oi := { dst := some 68, op := Op.slice 22 (Operand.tmp 57) (some (Operand.tmp 61)) (some (Operand.tmp 67)) none, type := 22, pos := "ref.go:285", after := #[{ on := 4, ground := Ground.data }, { on := 8, ground := Ground.data }, { on := 14, ground := Ground.data }], guard := none }) (v := ?_) rfl (by kernel_rfl) (by kernel_rfl) (by kernel_rfl) (fun _ _ _ h => h) (Or.inl ⟨by rfl, ?rby15⟩) (by assumption) ?_
        case rby15 => (intro w_ hSw; (try dsimp only at hSw); go_simp; try with_reducible rfl)
        simp only [Act.put, List.setIfInBounds_toArray, List.set_cons_zero, List.set_cons_succ]
        refine wpAnyH_ready (rs := [0]) (by kernel_rfl) (by simp) ?_
        refine AllReadyH.cons (o := { dst := some 53, op := Op.buildSlice 22 0 #[], type := 22, pos := "ref.go:285", after := #[], guard := none }) rfl (fun K_ hK_ => ?_) AllReadyH.nil
        go_simp
        refine hK_.out _ _ ?rbC0 (fun hHeld => ?_)
        case rbC0 => (try dsimp only); (go_keep)
        clear hK_ K_
        refine wpAnyH_ready (rs := [16]) (by kernel_rfl) (by simp) ?_
        refine AllReadyH.cons (o := { dst := some 69, op := Op.call { callee := Callee.builtin Builtin.append, args := #[Operand.tmp 53, Operand.tmp 68], argTypes := #[22, 22] }, type := 22, pos := "ref.go:285", after := #[{ on := 0, ground := Ground.data }, { on := 15, ground := Ground.data }], guard := none }) rfl (fun K_ hK_ => ?_) AllReadyH.nil
        refine step_append_row (wb := w4.drew.drew) rfl _ _ rfl (.slice (some ⟨w4.drew.drew.heap.size, 0, none⟩) 0 0) (.slice sy n' cy) [] (leftB b s2 E) (by simp [Act.eval]) (unhide HR6) (by simp [Act.eval]) (unhide HB6) (unhide Hll) ?_
        intro v6 w6 hR6 hG6
        rw [List.nil_append] at hR6
        obtain ⟨s6, c6, rfl⟩ := hR6.own.form
        rw [unhide HLl] at hR6
        have e6 := unhide HLl
        have HQ6 := hide ((unhide HQ5).drew.below hR6.b)
        have HR7 := hide hR6
        obtain ⟨y0, y1, y2, y3⟩ := (unhide HQ6).rd.c
        rw [unhide HN] at y0
        obtain ⟨v3, f3⟩ := (unhide HQ6).cell 3 (.slice none 0 0) rfl
        rw [e6]
        clear hR6 hG6 e6 hHeld
        refine hK_.out _ _ ?rbC16 (fun hHeld => ?_)
        case rbC16 => (try dsimp only); exact ⟨y0, y1⟩
        clear hK_ K_
        refine wpAnyH_take (i := 17) (oi := { dst := some 70, op := Op.fieldAddr 32 (Operand.tmp 6) 3, type := 0, pos := "ref.go:285", after := #[{ on := 0, ground := Ground.phase }, { on := 1, ground := Ground.phase }, { on := 2, ground := Ground.phase }, { on := 3, ground := Ground.phase }, { on := 4, ground := Ground.phase }, { on := 5, ground := Ground.phase }, { on := 6, ground := Ground.phase }, { on := 7, ground := Ground.phase }, { on := 8, ground := Ground.phase }, { on := 9, ground := Ground.phase }, { on := 10, ground := Ground.phase }, { on := 11, ground := Ground.phase }, { on := 12, ground := Ground.phase }, { on := 13, ground := Ground.phase }, { on := 14, ground := Ground.phase }, { on := 15, ground := Ground.phase }, { on := 16, ground := Ground.phase }], guard := none }) (v := ?_) rfl (by kernel_rfl) (by kernel_rfl) (by kernel_rfl) (fun _ _ _ h => h) (Or.inl ⟨by rfl, ?rby17⟩) (by assumption) ?_
        case rby17 => (intro w_ hSw; (try dsimp only at hSw); go_simp; try with_reducible rfl)
        simp only [Act.put, List.setIfInBounds_toArray, List.set_cons_zero, List.set_cons_succ]
        refine wpAnyH_ready (rs := [18]) (by kernel_rfl) (by simp) ?_
        refine AllReadyH.cons (o := { dst := none, op := Op.store 22 (Operand.tmp 70) (Operand.tmp 69), type := 0, pos := "ref.go:285", after := #[{ on := 17, ground := Ground.data }, { on := 16, ground := Ground.data }, { on := 16, ground := Ground.chain }, { on := 0, ground := Ground.phase }, { on := 1, ground := Ground.phase }, { on := 2, ground := Ground.phase }, { on := 3, ground := Ground.phase }, { on := 4, ground := Ground.phase }, { on := 5, ground := Ground.phase }, { on := 6, ground := Ground.phase }, { on := 7, ground := Ground.phase }, { on := 8, ground := Ground.phase }, { on := 9, ground := Ground.phase }, { on := 10, ground := Ground.phase }, { on := 11, ground := Ground.phase }, { on := 12, ground := Ground.phase }, { on := 13, ground := Ground.phase }, { on := 14, ground := Ground.phase }, { on := 15, ground := Ground.phase }, { on := 16, ground := Ground.phase }], guard := none }) rfl (fun K_ hK_ => ?_) AllReadyH.nil
        go_simp
        refine hK_.out _ _ ?rbC18 (fun hHeld => ?_)
        case rbC18 => (try dsimp only); exact ⟨by rw [World.cell?_setCell_far _ _ _ _ (unhide HVK)]; exact y0, by rw [World.cell?_setCell_far _ _ _ _ (unhide HVK)]; exact y1⟩
        clear hK_ K_
        refine wpAnyH_done (by kernel_rfl) ?_ _
        obtain ⟨w7, hw7⟩ : ∃ w7, w6.setCell ⟨V, 3, none⟩ (.slice s6 n' c6) = w7 := ⟨_, rfl⟩
        rw [hw7]
        have HQ7 : Hid (QAt w w7 K A V sb cb b s2 en #[.int .i64 (c' : Int), .int .i64 (t' : Int), .bool false, .slice s6 n' c6, .slice none 0 0]) := by
          show QAt _ _ _ _ _ _ _ _ _ _ _
          rw [← hw7]
          exact (unhide HQ6).put 3 (.slice s6 n' c6)
        have HBx : Hid (BytesAt w7 (.slice s6 n' c6) (leftB b s2 E) ∧ ∀ k, (Value.slice s6 n' c6).ownBlock = some k → V < k) := by
          have hlt := (unhide HQ5).lt
          have ho : ∀ k, (Value.slice s6 n' c6).ownBlock = some k → V < k := fun k hk => by
            have h1 := OwnV.fresh (unhide HR7).own k hk
            have h2 : w4.drew.drew.heap.size = w4.drew.heap.size := rfl
            omega
          refine ⟨?_, ho⟩
          rw [← hw7]
          exact ValsAt.grown (unhide HR7).bytes (grown_setCell (World.grownBy.refl _ (some V)) ⟨V, 3, none⟩ _ rfl) (fun e => by have := ho V e; omega)
        have hform := form_any rights w7 c' t' false s6 c6 none 0 0 (leftB b s2 E) (by rw [unhide HLl]; exact (unhide HBx).1) (by rw [unhide HLl]; omega)
        rw [unhide HLl] at hform
        have Hform := hide hform
        have HVd := hide (unhide HQ7).val
        clear hform HR7 HQ6 HQ5 hw7 z0 z1 z2 z3 v2
        obtain ⟨F, hF⟩ : ∃ F, formD c' t' false (leftB b s2 E) = F := ⟨_, rfl⟩
        rw [hF] at Hform Hv2
        clear hF
        by_cases hF0 : F = 0
        case neg =>
          have d2 : ((F : Int) == 0) = false := by simp; omega
          have d2' : ((F : Int) != 0) = true := by simp; omega
          have HTT : Hid (∀ w', ValueTold (f + 1) w' w.heap.size b s en dzero.toList (F : Int) s2) := fun w' => by unfold ValueTold; rw [unhide Hv2, if_pos hF0]; exact ⟨rfl, rfl⟩
          clear Hv2 HBx
          go_wp2_with (first
            | (refine wpList_load_row rfl 32 _ rfl V rfl 32 _ (0, 0) _ (unhide HVd) Tryd.underlying32 rfl hsz5 ?_)
            | (go_at_call 30; refine (unhide Hform).mono ?_; rintro e w8 ⟨rfl, hb8⟩
               have HQ8 := hide ((unhide HQ7).below hb8)
               have HAd := hide (unhide HQ8).res
               clear hb8)
            | (refine wpList_store_row rfl 32 _ _ rfl A dzero rfl rfl 32 _ (unhide HAd) hsz5 rfl (unhide H5) ?_))
          obtain ⟨e1, e2, e3⟩ := (unhide HQ8).fin dzero
          exact bodyPost_ret (results_row_tmp Tryd.results20 _ _ A 32 _ (0, 0) _ rfl e3 Tryd.underlying32 rfl hsz5 (.int .i64 (F : Int)) rfl) rfl ⟨dzero.toList, _, s2, rfl, unhide HTT _, by omega, e1, e2⟩
        subst hF0
        have Hv3 : Hid (valueP formD (f + 1) (leftB b s en) = .yes (.mk (c' : Int) (t' : Int) false (leftB b s2 E) [], leftB b E en)) := by show _ = _; rw [unhide Hv2, if_neg (by omega)]
        have Hcs5 : Hid ((#[.int .i64 (c' : Int), .int .i64 (t' : Int), .bool false, .slice s6 n' c6, .slice none 0 0] : Array Value).all (·.oneCell') = true) := by show _ = true; simp [Value.oneCell']
        clear Hv2
        go_wp2_with (first
          | (refine wpList_load_row rfl 32 _ rfl V rfl 32 _ (0, 0) _ (unhide HVd) Tryd.underlying32 rfl hsz5 ?_)
          | (go_at_call 30; refine (unhide Hform).mono ?_; rintro e w8 ⟨rfl, hb8⟩
             have HQ8 := hide ((unhide HQ7).below hb8)
             have HB8 := hide hb8
             obtain ⟨x0, x1, x2, x3⟩ := (unhide HQ8).rd.c
             obtain ⟨x5, _⟩ := (unhide HQ8).cell 2 (.bool false) rfl
             obtain ⟨w9, hw9⟩ : ∃ w9, w8.setCell ⟨K, 1, none⟩ (.int .i64 (E : Int)) = w9 := ⟨_, rfl⟩
             have HQ9 : Hid (QAt w w9 K A V sb cb b E en #[.int .i64 (c' : Int), .int .i64 (t' : Int), .bool false, .slice s6 n' c6, .slice none 0 0]) := by { show QAt _ _ _ _ _ _ _ _ _ _ _; rw [← hw9]; exact (unhide HQ8).read (grown_setCell (World.grownBy.refl _ _) ⟨K, 1, none⟩ _ rfl) ((unhide HQ8).rd.set E hEe) }
             have HVd9 := hide (unhide HQ9).val
             have HAd9 := hide (unhide HQ9).res
             have HB9 : Hid (BytesAt w9 (.slice s6 n' c6) (leftB b s2 E)) := by { show BytesAt _ _ _; rw [← hw9]; exact ValsAt.grown (ValsAt.below (unhide HBx).1 hb8) (grown_setCell (World.grownBy.refl _ (some K)) ⟨K, 1, none⟩ _ rfl) (fun e => by have := (unhide HBx).2 K e; have := (unhide HQ8).ka; have := (unhide HQ8).av; omega) }
             clear hb8 HQ8)
          | (refine wpList_load_row rfl 32 _ rfl V rfl 32 _ (0, 0) _ (unhide HVd9) Tryd.underlying32 rfl hsz5 ?_)
          | (refine wpList_store_row rfl 32 _ _ rfl A #[.int .i64 (c' : Int), .int .i64 (t' : Int), .bool false, .slice s6 n' c6, .slice none 0 0] rfl rfl 32 _ (unhide HAd9) hsz5 rfl (unhide Hcs5) ?_))
        obtain ⟨e1, e2, e3⟩ := (unhide HQ9).fin #[.int .i64 (c' : Int), .int .i64 (t' : Int), .bool false, .slice s6 n' c6, .slice none 0 0]
        refine bodyPost_ret (results_row_tmp Tryd.results20 _ _ A 32 _ (0, 0) _ rfl e3 Tryd.underlying32 rfl hsz5 (.int .i64 0) rfl) rfl ⟨_, 0, E, rfl, ?_, by omega, e1, e2⟩
        unfold ValueTold
        rw [unhide Hv3]
        refine ⟨?_, rfl, rfl, by omega⟩
        have hAV := (unhide HQ9).av
        refine ⟨.slice s6 n' c6, none, 0, rfl, ?_, fun _ k hk => ?_, ⟨?_, Nat.zero_le _⟩, Nat.le_refl _, fun _ => rfl, fun h => absurd rfl h⟩
        · exact ValsAt.grown (unhide HB9) (grown_setRow _ A _) (fun e => by have := (unhide HBx).2 A e; omega)
        · have := (unhide HBx).2 k hk; omega
        · show (leftB b s2 E).length ≤ _
          rw [unhide HLl]; omega
      | true =>
        simp only [Bool.true_eq_false, if_false, if_true] at Hv2
        have HQ5 := hide (unhide HQ4).drew
        obtain ⟨v2, _⟩ := (unhide HQ5).cell 2 (.bool true) rfl
        have hform := form_any rights w4.drew c' t' true none 0 none 0 0 [] (bytes_nil _) (by simp)
        simp only [List.length_nil] at hform
        have Hform := hide hform
        have HVd := hide (unhide HQ5).val
        obtain ⟨F, hF⟩ : ∃ F, formD c' t' true [] = F := ⟨_, rfl⟩
        rw [hF] at Hform Hv2
        clear hF hform HQ4
        by_cases hF0 : F = 0
        case neg =>
          have d2 : ((F : Int) == 0) = false := by simp; omega
          have d2' : ((F : Int) != 0) = true := by simp; omega
          have HTT : Hid (∀ w', ValueTold (f + 1) w' w.heap.size b s en dzero.toList (F : Int) s2) := fun w' => by unfold ValueTold; rw [unhide Hv2, if_pos hF0]; exact ⟨rfl, rfl⟩
          clear Hv2
          go_wp2
          go_region_held3 (fun w' => w'.cell? ⟨K, 1, none⟩ = some (.int .i64 (s2 : Int)) ∧ w'.cell? ⟨K, 2, none⟩ = some (.int .i64 (en : Int))) (go_keep) (fail)
          go_wp2_with (first
            | (refine wpList_load_row rfl 32 _ rfl V rfl 32 _ (0, 0) _ (unhide HVd) Tryd.underlying32 rfl hsz5 ?_)
            | (go_at_call 30; refine (unhide Hform).mono ?_; rintro e w8 ⟨rfl, hb8⟩
               have HQ8 := hide ((unhide HQ5).below hb8)
               have HAd := hide (unhide HQ8).res
               clear hb8)
            | (refine wpList_store_row rfl 32 _ _ rfl A dzero rfl rfl 32 _ (unhide HAd) hsz5 rfl (unhide H5) ?_))
          obtain ⟨e1, e2, e3⟩ := (unhide HQ8).fin dzero
          exact bodyPost_ret (results_row_tmp Tryd.results20 _ _ A 32 _ (0, 0) _ rfl e3 Tryd.underlying32 rfl hsz5 (.int .i64 (F : Int)) rfl) rfl ⟨dzero.toList, _, s2, rfl, unhide HTT _, by omega, e1, e2⟩
        subst hF0
        rw [if_neg (by omega)] at Hv2
        have hEs : E - s2 = n' := by have := unhide HE; omega
        rw [hEs] at Hv2
        clear hEs
        go_wp2
        go_region_held3 (fun w' => w'.cell? ⟨K, 1, none⟩ = some (.int .i64 (s2 : Int)) ∧ w'.cell? ⟨K, 2, none⟩ = some (.int .i64 (en : Int))) (go_keep) (fail)
        go_wp2_with (first
          | (refine wpList_load_row rfl 32 _ rfl V rfl 32 _ (0, 0) _ (unhide HVd) Tryd.underlying32 rfl hsz5 ?_)
          | (go_at_call 30; refine (unhide Hform).mono ?_; rintro e w8 ⟨rfl, hb8⟩
             have HQ8 := hide ((unhide HQ5).below hb8)
             obtain ⟨x0, x1, x2, x3⟩ := (unhide HQ8).rd.c
             rw [unhide HN] at x0
             obtain ⟨x5, _⟩ := (unhide HQ8).cell 2 (.bool true) rfl
             clear hb8 z0 z1 z2 z3))
        obtain ⟨K2, hK2⟩ : ∃ K2, w8.heap.size = K2 := ⟨_, rfl⟩
        refine wp_region_held_drew (S := fun w' => w'.cell? ⟨K, 0, none⟩ = some (.slice sb N cb) ∧ w'.cell? ⟨K, 1, none⟩ = some (.int .i64 (s2 : Int))) (by kernel_rfl) ?rnS (fun hHeld => ?_)
        case rnS => (try dsimp only); (go_keep)
        refine wpAnyH_take (i := 0) (oi := { dst := some 89, op := Op.move (Operand.tmp 0), type := 50, pos := "ref.go:295", after := #[], guard := none }) (v := ?_) rfl (by kernel_rfl) (by kernel_rfl) (by kernel_rfl) (fun _ _ _ h => h) (Or.inl ⟨by rfl, ?rny0⟩) (by assumption) ?_
        case rny0 => (intro w_ hSw; (try dsimp only at hSw); go_simp; try with_reducible rfl)
        simp only [Act.put, List.setIfInBounds_toArray, List.set_cons_zero, List.set_cons_succ]
        refine wpAnyH_take (i := 1) (oi := { dst := some 90, op := Op.nilCheck (Operand.tmp 89), type := 0, pos := "ref.go:295", after := #[{ on := 0, ground := Ground.data }], guard := none }) (v := ?_) rfl (by kernel_rfl) (by kernel_rfl) (by kernel_rfl) (fun _ _ _ h => h) (Or.inl ⟨by rfl, ?rny1⟩) (by assumption) ?_
        case rny1 => (intro w_ hSw; (try dsimp only at hSw); go_simp; try with_reducible rfl)
        simp only [Act.put, List.setIfInBounds_toArray, List.set_cons_zero, List.set_cons_succ]
        refine wpAnyH_take (i := 2) (oi := { dst := some 91, op := Op.fieldAddr 52 (Operand.tmp 90) 0, type := 0, pos := "ref.go:295", after := #[{ on := 1, ground := Ground.data }], guard := none }) (v := ?_) rfl (by kernel_rfl) (by kernel_rfl) (by kernel_rfl) (fun _ _ _ h => h) (Or.inl ⟨by rfl, ?rny2⟩) (by assumption) ?_
        case rny2 => (intro w_ hSw; (try dsimp only at hSw); go_simp; try with_reducible rfl)
        simp only [Act.put, List.setIfInBounds_toArray, List.set_cons_zero, List.set_cons_succ]
        refine wpAnyH_take (i := 3) (oi := { dst := some 92, op := Op.load 22 (Operand.tmp 91), type := 22, pos := "ref.go:295", after := #[{ on := 2, ground := Ground.data }], guard := none }) (v := ?_) rfl (by kernel_rfl) (by kernel_rfl) (by kernel_rfl) (fun _ _ _ h => h) (Or.inl ⟨by rfl, ?rny3⟩) (by assumption) ?_
        case rny3 => (intro w_ hSw; (try dsimp only at hSw); go_simp; try with_reducible rfl)
        simp only [Act.put, List.setIfInBounds_toArray, List.set_cons_zero, List.set_cons_succ]
        refine wpAnyH_take (i := 4) (oi := { dst := some 93, op := Op.move (Operand.tmp 0), type := 50, pos := "ref.go:295", after := #[], guard := none }) (v := ?_) rfl (by kernel_rfl) (by kernel_rfl) (by kernel_rfl) (fun _ _ _ h => h) (Or.inl ⟨by rfl, ?rny4⟩) (by assumption) ?_
        case rny4 => (intro w_ hSw; (try dsimp only at hSw); go_simp; try with_reducible rfl)
        simp only [Act.put, List.setIfInBounds_toArray, List.set_cons_zero, List.set_cons_succ]
        refine wpAnyH_take (i := 5) (oi := { dst := some 94, op := Op.nilCheck (Operand.tmp 93), type := 0, pos := "ref.go:295", after := #[{ on := 4, ground := Ground.data }], guard := none }) (v := ?_) rfl (by kernel_rfl) (by kernel_rfl) (by kernel_rfl) (fun _ _ _ h => h) (Or.inl ⟨by rfl, ?rny5⟩) (by assumption) ?_
        case rny5 => (intro w_ hSw; (try dsimp only at hSw); go_simp; try with_reducible rfl)
        simp only [Act.put, List.setIfInBounds_toArray, List.set_cons_zero, List.set_cons_succ]
        refine wpAnyH_take (i := 6) (oi := { dst := some 95, op := Op.fieldAddr 52 (Operand.tmp 94) 1, type := 0, pos := "ref.go:295", after := #[{ on := 5, ground := Ground.data }], guard := none }) (v := ?_) rfl (by kernel_rfl) (by kernel_rfl) (by kernel_rfl) (fun _ _ _ h => h) (Or.inl ⟨by rfl, ?rny6⟩) (by assumption) ?_
        case rny6 => (intro w_ hSw; (try dsimp only at hSw); go_simp; try with_reducible rfl)
        simp only [Act.put, List.setIfInBounds_toArray, List.set_cons_zero, List.set_cons_succ]
        refine wpAnyH_take (i := 7) (oi := { dst := some 96, op := Op.load 3 (Operand.tmp 95), type := 3, pos := "ref.go:295", after := #[{ on := 6, ground := Ground.data }], guard := none }) (v := ?_) rfl (by kernel_rfl) (by kernel_rfl) (by kernel_rfl) (fun _ _ _ h => h) (Or.inl ⟨by rfl, ?rny7⟩) (by assumption) ?_
        case rny7 => (intro w_ hSw; (try dsimp only at hSw); go_simp; try with_reducible rfl)
        simp only [Act.put, List.setIfInBounds_toArray, List.set_cons_zero, List.set_cons_succ]
        refine wpAnyH_take (i := 8) (oi := { dst := some 97, op := Op.move (Operand.tmp 0), type := 50, pos := "ref.go:295", after := #[], guard := none }) (v := ?_) rfl (by kernel_rfl) (by kernel_rfl) (by kernel_rfl) (fun _ _ _ h => h) (Or.inl ⟨by rfl, ?rny8⟩) (by assumption) ?_
        case rny8 => (intro w_ hSw; (try dsimp only at hSw); go_simp; try with_reducible rfl)
        simp only [Act.put, List.setIfInBounds_toArray, List.set_cons_zero, List.set_cons_succ]
        refine wpAnyH_take (i := 9) (oi := { dst := some 98, op := Op.nilCheck (Operand.tmp 97), type := 0, pos := "ref.go:295", after := #[{ on := 8, ground := Ground.data }], guard := none }) (v := ?_) rfl (by kernel_rfl) (by kernel_rfl) (by kernel_rfl) (fun _ _ _ h => h) (Or.inl ⟨by rfl, ?rny9⟩) (by assumption) ?_
        case rny9 => (intro w_ hSw; (try dsimp only at hSw); go_simp; try with_reducible rfl)
        simp only [Act.put, List.setIfInBounds_toArray, List.set_cons_zero, List.set_cons_succ]
        refine wpAnyH_take (i := 10) (oi := { dst := some 99, op := Op.fieldAddr 52 (Operand.tmp 98) 1, type := 0, pos := "ref.go:295", after := #[{ on := 9, ground := Ground.data }], guard := none }) (v := ?_) rfl (by kernel_rfl) (by kernel_rfl) (by kernel_rfl) (fun _ _ _ h => h) (Or.inl ⟨by rfl, ?rny10⟩) (by assumption) ?_
        case rny10 => (intro w_ hSw; (try dsimp only at hSw); go_simp; try with_reducible rfl)
        simp only [Act.put, List.setIfInBounds_toArray, List.set_cons_zero, List.set_cons_succ]
        refine wpAnyH_take (i := 11) (oi := { dst := some 100, op := Op.load 3 (Operand.tmp 99), type := 3, pos := "ref.go:295", after := #[{ on := 10, ground := Ground.data }], guard := none }) (v := ?_) rfl (by kernel_rfl) (by kernel_rfl) (by kernel_rfl) (fun _ _ _ h => h) (Or.inl ⟨by rfl, ?rny11⟩) (by assumption) ?_
        case rny11 => (intro w_ hSw; (try dsimp only at hSw); go_simp; try with_reducible rfl)
        simp only [Act.put, List.setIfInBounds_toArray, List.set_cons_zero, List.set_cons_succ]
        refine wpAnyH_take (i := 12) (oi := { dst := some 101, op := Op.move (Operand.tmp 8), type := 3, pos := "ref.go:295", after := #[], guard := none }) (v := ?_) rfl (by kernel_rfl) (by kernel_rfl) (by kernel_rfl) (fun _ _ _ h => h) (Or.inl ⟨by rfl, ?rny12⟩) (by assumption) ?_
        case rny12 => (intro w_ hSw; (try dsimp only at hSw); go_simp; try with_reducible rfl)
        simp only [Act.put, List.setIfInBounds_toArray, List.set_cons_zero, List.set_cons_succ]
        refine wpAnyH_take (i := 13) (oi := { dst := some 102, op := Op.binOp BinOp.add 3 (Operand.tmp 100) (Operand.tmp 101) 3, type := 3, pos := "ref.go:295", after := #[{ on := 11, ground := Ground.data }, { on := 12, ground := Ground.data }], guard := none }) (v := ?_) rfl (by kernel_rfl) (by kernel_rfl) (by kernel_rfl) (fun _ _ _ h => h) (Or.inl ⟨by rfl, ?rny13⟩) (by assumption) ?_
        case rny13 => (intro w_ hSw; (try dsimp only at hSw); go_simp; try with_reducible rfl)
        simp only [Act.put, List.setIfInBounds_toArray, List.set_cons_zero, List.set_cons_succ]
        refine wpAnyH_take (i := 14) (oi := { dst := some 103, op := Op.build 52 #[(0, Operand.tmp 92), (1, Operand.tmp 96), (2, Operand.tmp 102)], type := 52, pos := "ref.go:295", after := #[{ on := 3, ground := Ground.data }, { on := 7, ground := Ground.data }, { on := 13, ground := Ground.data }], guard := none }) (v := ?_) rfl (by kernel_rfl) (by kernel_rfl) (by kernel_rfl) (fun _ _ _ h => h) (Or.inl ⟨by rfl, ?rny14⟩) (by assumption) ?_
        case rny14 => (intro w_ hSw; (try dsimp only at hSw); go_simp; try with_reducible rfl)
        simp only [Act.put, List.setIfInBounds_toArray, List.set_cons_zero, List.set_cons_succ]
        refine wpAnyH_ready (rs := [15]) (by kernel_rfl) (by simp) ?_
        refine AllReadyH.cons (o := { dst := some 104, op := Op.box 52 (Operand.tmp 103), type := 50, pos := "ref.go:295", after := #[{ on := 14, ground := Ground.data }], guard := none }) rfl (fun K_ hK_ => ?_) AllReadyH.nil
        go_simp
        refine hK_.out _ _ ?rnC15 (fun hHeld => ?_)
        case rnC15 => (try dsimp only); (go_keep)
        clear hK_ K_
        refine wpAnyH_take (i := 16) (oi := { dst := some 11, op := Op.assign (Operand.tmp 104), type := 50, pos := "ref.go:295", after := #[{ on := 15, ground := Ground.data }, { on := 0, ground := Ground.phase }, { on := 1, ground := Ground.phase }, { on := 2, ground := Ground.phase }, { on := 3, ground := Ground.phase }, { on := 4, ground := Ground.phase }, { on := 5, ground := Ground.phase }, { on := 6, ground := Ground.phase }, { on := 7, ground := Ground.phase }, { on := 8, ground := Ground.phase }, { on := 9, ground := Ground.phase }, { on := 10, ground := Ground.phase }, { on := 11, ground := Ground.phase }, { on := 12, ground := Ground.phase }, { on := 13, ground := Ground.phase }, { on := 14, ground := Ground.phase }, { on := 15, ground := Ground.phase }], guard := none }) (v := ?_) rfl (by kernel_rfl) (by kernel_rfl) (by kernel_rfl) (fun _ _ _ h => h) (Or.inl ⟨by rfl, ?rny16⟩) (by assumption) ?_
        case rny16 => (intro w_ hSw; (try dsimp only at hSw); go_simp; try with_reducible rfl)
        simp only [Act.put, List.setIfInBounds_toArray, List.set_cons_zero, List.set_cons_succ]
        refine wpAnyH_done (by kernel_rfl) ?_ _
        obtain ⟨w9, hw9⟩ : ∃ w9, (w8.alloc (.cells #[.slice sb N cb, .int .i64 (s2 : Int), .int .i64 (E : Int)] 52)).drew = w9 := ⟨_, rfl⟩
        rw [hw9]
        have Hbne : Hid (b ≠ []) := fun e => by have h1 : b.length = 0 := by { rw [e]; rfl }; omega
        have HK9 : Hid (KAt w w9 K K2 A V sb cb b s2 E en (c' : Int) (t' : Int) f n' [] s2 n' none 0 [] (-1) false) := by
          have hq9 : QAt w w9 K A V sb cb b s2 en #[.int .i64 (c' : Int), .int .i64 (t' : Int), .bool true, .slice none 0 0, .slice none 0 0] := by rw [← hw9]; exact ((unhide HQ8).below ((Below.refl _ _).alloc (Nat.le_refl _) _)).drew
          have hV8 := (unhide HQ8).lt
          have hrow : w9.heap[K2]? = some (.cells #[.slice sb b.length cb, .int .i64 (s2 : Int), .int .i64 (E : Int)] 52 (0, 0)) := by rw [← hw9, ← hK2, unhide HN]; exact heap_alloc_new w8 _
          refine ⟨hq9, ⟨hrow, hq9.rd.bytes, fun _ a ha => ?_, by have := unhide HE; omega, by omega, hsm⟩, ⟨hq9.val, hq9.res, ownd_nil _ _ _, fun j k hj => (by simp at hj), hq9.av, Nat.zero_le _, bare_below hq9.gr⟩, fun g hg => (by cases hg), by omega, (prep_nil _).symm, by have := unhide HE; omega, rfl, Or.inl ⟨rfl, rfl⟩, unhide Hbne, Nat.zero_le _⟩
          have := hq9.ba (unhide Hbne) a ha
          have := hq9.av
          omega
        clear HQ8 HQ5 HVd Hform hw9 hK2 x0 x1 x2 x3 x5 v2
        obtain ⟨d2, hd2⟩ : ∃ d2, d + 1 = d2 := ⟨_, rfl⟩
        have ed2 : (d : Int) + 1 = (d2 : Int) := by omega
        have Hd2 : Hid (d2 + f = 17) := by have := unhide Hd; show _ = _; omega
        clear hd2
        go_wp2
        go_loopw [12, 13] (fun ll ff wr => ∃ (dn : List (DV × Bs)) (sk m : Nat) (sx : Option Addr) (cx : Nat) (xs : List Value) (li : Int) (fl : Bool), ll = .int .i64 li ∧ ff = .bool fl ∧ Hid (KAt w wr K K2 A V sb cb b s2 E en (c' : Int) (t' : Int) f n' dn sk m sx cx xs li fl)) (fun _ _ wr => E - atOf wr K2)
        case atStart => exact ⟨[], s2, n', none, 0, [], -1, false, rfl, rfl, HK9⟩
        case round =>
          obtain ⟨dn, sk, m, sx, cx, xs, li, fl, rfl, rfl, HK⟩ := hrel
          clear HK9
          obtain ⟨y0, y1, y2, y3⟩ := (unhide HK).k.c
          have hskE := (unhide HK).k.le
          have skb : (sk : Int) ≤ 65536 := by omega
          by_cases hlt : sk < E
          · have g1 : decide ((sk : Int) < (E : Int)) = true := by simp; omega
            have g1n : decide (sk < E) = true := by simp; omega
            have HKd := hide (unhide HK).drew
            have Hc := hide (unhide Hih wr.drew K2 sb cb b sk E d2 (unhide Hd2) (unhide HKd).k)
            go_wp2
            go_region_held3 (fun w' => w'.cell? ⟨K2, 1, none⟩ = some (.int .i64 (sk : Int)) ∧ w'.cell? ⟨K2, 2, none⟩ = some (.int .i64 (E : Int))) (go_keep) (fail)
            go_wp2_with fail
            refine (unhide Hc).mono ?_
            rintro e w5 ⟨cs, er, s', rfl, htold, hss, hr5, hg5⟩
            have hrd := (unhide HKd).read hg5
            have HQ5 := hide hrd.1
            have HM5 := hide hrd.2
            have Hr5 := hide hr5
            have Hs5 : Hid (wr.drew.heap.size ≤ w5.heap.size) := hg5.size
            have hsE := hr5.le
            clear hrd hr5 hg5 Hc y0 y1 y2 y3
            unfold ValueTold at htold
            cases hval : valueP formD f (leftB b sk E) with
            | no x =>
              rw [hval] at htold
              obtain ⟨rfl, rfl⟩ := htold
              have hx0 := value_pos f _ _ hval
              have g2 : ((x : Int) == 0) = false := by simp; omega
              have g2' : ((x : Int) != 0) = true := by simp; omega
              have Hv3 : Hid (valueP formD (f + 1) (leftB b s en) = .no x) := by
                show _ = _
                have hne : leftB b sk E ≠ [] := fun e => by have := congrArg List.length e; rw [len_leftB (by omega)] at this; simp at this; omega
                rw [unhide Hv2, (unhide HK).told, kids_no dn hne (by rw [len_leftB (by omega)]; exact (unhide HK).fuel) hval]
              rw [show dzero.toList.toArray = #[.int .i64 0, .int .i64 0, .bool false, .slice none 0 0, .slice none 0 0] from rfl]
              clear hval
              have HQe := hide ((unhide HQ5).below ((Below.refl _ _).alloc (Nat.le_refl _) (.cells #[.int .i64 0, .int .i64 0, .bool false, .slice none 0 0, .slice none 0 0] 32)))
              obtain ⟨e1, e2, e3⟩ := (unhide HQe).fin dzero
              have E1 := hide e1
              have E2 := hide e2
              have E3 := hide e3
              have HAd : Hid (((w5.alloc (.cells #[.int .i64 0, .int .i64 0, .bool false, .slice none 0 0, .slice none 0 0] 32))).heap[A]? = some (.cells dzero 32 (0, 0))) := (unhide HQe).res
              have HTT : Hid (∀ w', ValueTold (f + 1) w' w.heap.size b s en dzero.toList (x : Int) s2) := fun w' => by unfold ValueTold; rw [unhide Hv3]; exact ⟨rfl, rfl⟩
              clear e1 e2 e3 HQe
              clear Hv3 Hv2 HK HKd
              go_wp2_with (first | (refine wpList_store_row rfl 32 _ _ rfl A dzero rfl rfl 32 _ (unhide HAd) hsz5 rfl (unhide H5) ?_))
              exact bodyPost_ret (results_row_tmp Tryd.results20 _ _ A 32 _ (0, 0) _ rfl (unhide E3) Tryd.underlying32 rfl hsz5 (.int .i64 (x : Int)) rfl) rfl ⟨dzero.toList, (x : Int), s2, rfl, unhide HTT _, by omega, unhide E1, unhide E2⟩
            | yes q5 =>
              obtain ⟨v, r⟩ := q5
              rw [hval] at htold
              obtain ⟨hv5, rfl, rfl, hlt5⟩ := htold
              obtain ⟨p1, q1, p2, q2, rfl⟩ := hv5.form
              have Hval := hide hval
              have HV5 := hide hv5
              clear hv5 hval
              unfold dcells
              obtain ⟨kc, hkc⟩ : ∃ kc, v.cls = kc := ⟨_, rfl⟩
              obtain ⟨kt, hkt⟩ : ∃ kt, v.tag = kt := ⟨_, rfl⟩
              obtain ⟨km, hkm⟩ : ∃ km, v.made = km := ⟨_, rfl⟩
              obtain ⟨kl, hkl⟩ : ∃ kl, v.bytes.length = kl := ⟨_, rfl⟩
              obtain ⟨kk, hkk⟩ : ∃ kk, v.kids.length = kk := ⟨_, rfl⟩
              simp only [hkc, hkt, hkm, hkl, hkk] at HV5 ⊢
              clear hkc hkt hkm hkl hkk
              obtain ⟨w6, hw6⟩ : ∃ w6, w5.alloc (.cells #[.int .i64 kc, .int .i64 kt, .bool km, .slice p1 kl q1, .slice p2 kk q2] 32) = w6 := ⟨_, rfl⟩
              have hb6 : Below w5.heap.size w5 w6 := by rw [← hw6]; exact (Below.refl _ _).alloc (Nat.le_refl _) _
              have HX6 : Hid (w6.heap[w5.heap.size]? = some (.cells #[.int .i64 kc, .int .i64 kt, .bool km, .slice p1 kl q1, .slice p2 kk q2] 32 (0, 0))) := by show _ = _; rw [← hw6]; exact heap_alloc_new w5 _
              obtain ⟨X, hX⟩ : ∃ X, w5.heap.size = X := ⟨_, rfl⟩
              rw [hX] at HX6
              have HQ6 := hide ((unhide HQ5).below hb6)
              obtain ⟨u4, fu4⟩ := (unhide HQ6).cell 4 (.slice sx dn.length cx) rfl
              have hb7 : Below w6.heap.size w6 (w6.alloc (.cells (dcells kc kt km (.slice p1 kl q1) (.slice p2 kk q2)).toArray 32)) := (Below.refl _ _).alloc (Nat.le_refl _) _
              have HQ7 := hide ((unhide HQ6).below hb7)
              have HM7 := hide (((unhide HM5).below hb6).below hb7)
              have Hr7 := hide (((unhide Hr5).below hb6).below hb7)
              have HV7 := hide (((unhide HV5).below hb6).below hb7)
              have Hs7 : Hid (wr.drew.heap.size ≤ (w6.alloc (.cells (dcells kc kt km (.slice p1 kl q1) (.slice p2 kk q2)).toArray 32)).heap.size) := Nat.le_trans (unhide Hs5) (Nat.le_trans hb6.size hb7.size)
              have H1c : Hid (∀ u ∈ dcells kc kt km (.slice p1 kl q1) (.slice p2 kk q2), u.oneCell' = true) := by { intro u hu; simp only [dcells, List.mem_cons, List.not_mem_nil, or_false] at hu; rcases hu with rfl | rfl | rfl | rfl | rfl <;> rfl }
              have Hsz7 : Hid (V + 1 ≤ (w6.alloc (.cells (dcells kc kt km (.slice p1 kl q1) (.slice p2 kk q2)).toArray 32)).heap.size) := (unhide HQ7).lt
              have Hkl : Hid (dn.length ≤ 1073741824) := by have := (unhide HK).cnt; show _ ≤ _; omega
              have HxV : Hid (∀ g, (Value.slice sx dn.length cx).ownBlock = some g → V < g) := fun g hg => by have := (unhide HK).xk g hg; have := (unhide HK).vk; omega
              clear hb6 hb7 HQ5 HM5 Hr5 HV5 Hs5
              go_wp2_with (first
                | (refine wpList_load_row rfl 32 _ rfl X rfl 32 _ (0, 0) _ (unhide HX6) Tryd.underlying32 rfl hsz5 ?_)
                | (at_builtin; refine wpList_append_five Erv rfl _ _ rfl (V + 1) (.slice sx dn.length cx) dn.length xs (dcells kc kt km (.slice p1 kl q1) (.slice p2 kk q2)) rfl (unhide HM7).own w6.heap.size 0 1 rfl rfl (cells_new w6 _ 32) (unhide H1c) (unhide Hsz7) (unhide Hkl) ?_
                   intro v7 wb hown7 hg7 hor7
                   obtain ⟨s7, c7, rfl, _, _⟩ := hown7.form
                   have HQb := hide ((unhide HQ7).grown hg7 (unhide HxV))
                   obtain ⟨o7, of7⟩ := (unhide HQb).cell 4 (.slice sx dn.length cx) rfl
                   have HO7 := hide hown7
                   have HG7 := hide hg7
                   have Hor7 := hide hor7
                   clear hown7 hg7 hor7 HQb))
              obtain ⟨w8, hw8⟩ : ∃ w8, wb.setCell ⟨V, 4, none⟩ (.slice s7 (dn.length + 1) c7) = w8 := ⟨_, rfl⟩
              have HK8 : Hid (KAt w w8 K K2 A V sb cb b s2 E en (c' : Int) (t' : Int) f n' (dn ++ [(v, leftB b sk s')]) s' (m - 1) s7 c7 (xs ++ dcells kc kt km (.slice p1 kl q1) (.slice p2 kk q2)) (sk : Int) (fallsP ((dn ++ [(v, leftB b sk s')]).map (·.2)))) := by
                obtain ⟨sy, cy, ev, hk8⟩ := KAt.add (unhide HKd) (unhide HQ7) (unhide HM7) (unhide Hr7) (unhide HV7) ⟨(unhide HKd).k.lt, fun g hg => (OwnD.block (unhide HKd).md.own g hg).2⟩ (unhide Hs7) (unhide HO7) (unhide HG7) (unhide Hor7) (unhide Hval) hlt5 hsE (by omega)
                simp only [Value.slice.injEq] at ev
                obtain ⟨rfl, _, rfl⟩ := ev
                rw [← hw8]
                exact hk8
              rw [hw8]
              obtain ⟨k0, k1, k2, k3⟩ := (unhide HK8).q.rd.c
              rw [unhide HN] at k0
              obtain ⟨y0, y1, y2, y3⟩ := (unhide HK8).k.c
              have hat8 := (unhide HK8).k.atOf
              clear hw8 HQ7 HM7 Hr7 HV7 HX6 HQ6 u4 fu4 o7 of7 HO7 HG7 Hor7 hw6 hX Hs7 Hsz7 H1c Hval HxV
              have hd' : Below w8.heap.size w8 w8.drew := (Below.refl _ _).drew
              have Hbya : Hid (BytesAt w8.drew (.slice sb N cb) b) := by have := (unhide HK8).q.rd.bytes.drew; rw [unhide HN] at this; exact this
              cases fl with
              | true =>
                have hfl : fallsP ((dn ++ [(v, leftB b sk s')]).map (·.2)) = true := by
                  rw [List.map_append]
                  show fallsP (_ ++ [leftB b sk s']) = true
                  rw [falls_snoc, ← (unhide HK).fl]
                  rfl
                rw [hfl] at HK8
                have HK9 := hide (unhide HK8).drew
                clear hfl
                refine wp_region_held_drew (S := fun w' => w'.cell? ⟨K, 0, none⟩ = some (.slice sb N cb) ∧ w'.cell? ⟨K2, 1, none⟩ = some (.int .i64 (s' : Int))) (by kernel_rfl) ?raS (fun hHeld => ?_)
                case raS => (try dsimp only); (go_keep)
                refine wpAnyH_take (i := 0) (oi := { dst := some 135, op := Op.move (Operand.tmp 13), type := 4, pos := "ref.go:305", after := #[], guard := none }) (v := ?_) rfl (by kernel_rfl) (by kernel_rfl) (by kernel_rfl) (fun _ _ _ h => h) (Or.inl ⟨by rfl, ?ray0⟩) (by assumption) ?_
                case ray0 => (intro w_ hSw; (try dsimp only at hSw); go_simp; try with_reducible rfl)
                simp only [Act.put, List.setIfInBounds_toArray, List.set_cons_zero, List.set_cons_succ]
                refine wpAnyH_take (i := 1) (oi := { dst := some 136, op := Op.move (Operand.tmp 135), type := 4, pos := "ref.go:305", after := #[{ on := 0, ground := Ground.data }], guard := none }) (v := ?_) rfl (by kernel_rfl) (by kernel_rfl) (by kernel_rfl) (fun _ _ _ h => h) (Or.inl ⟨by rfl, ?ray1⟩) (by assumption) ?_
                case ray1 => (intro w_ hSw; (try dsimp only at hSw); go_simp; try with_reducible rfl)
                simp only [Act.put, List.setIfInBounds_toArray, List.set_cons_zero, List.set_cons_succ]
                refine wpAnyH_take (i := 2) (oi := { dst := some 137, op := Op.move (Operand.tmp 12), type := 3, pos := "ref.go:305", after := #[{ on := 1, ground := Ground.guard }], guard := some (1, false) }) (v := undef) rfl (by kernel_rfl) (by kernel_rfl) (by kernel_rfl) (fun _ _ _ h => h) (Or.inr ⟨by rfl, rfl⟩) (by assumption) ?_
                simp only [Act.put, List.setIfInBounds_toArray, List.set_cons_zero, List.set_cons_succ]
                refine wpAnyH_take (i := 3) (oi := { dst := some 138, op := Op.binOp BinOp.geq 3 (Operand.tmp 137) (Operand.const (Value.int IntKind.i64 0)) 3, type := 4, pos := "ref.go:305", after := #[{ on := 2, ground := Ground.data }, { on := 1, ground := Ground.guard }], guard := some (1, false) }) (v := undef) rfl (by kernel_rfl) (by kernel_rfl) (by kernel_rfl) (fun _ _ _ h => h) (Or.inr ⟨by rfl, rfl⟩) (by assumption) ?_
                simp only [Act.put, List.setIfInBounds_toArray, List.set_cons_zero, List.set_cons_succ]
                refine wpAnyH_take (i := 4) (oi := { dst := some 139, op := Op.move (Operand.tmp 138), type := 4, pos := "ref.go:305", after := #[{ on := 3, ground := Ground.data }, { on := 1, ground := Ground.chain }, { on := 1, ground := Ground.guard }], guard := some (1, false) }) (v := undef) rfl (by kernel_rfl) (by kernel_rfl) (by kernel_rfl) (fun _ _ _ h => h) (Or.inr ⟨by rfl, rfl⟩) (by assumption) ?_
                simp only [Act.put, List.setIfInBounds_toArray, List.set_cons_zero, List.set_cons_succ]
                refine wpAnyH_take (i := 5) (oi := { dst := some 140, op := Op.move (Operand.tmp 0), type := 50, pos := "ref.go:305", after := #[{ on := 4, ground := Ground.guard }], guard := some (4, true) }) (v := undef) rfl (by kernel_rfl) (by kernel_rfl) (by kernel_rfl) (fun _ _ _ h => h) (Or.inr ⟨by rfl, rfl⟩) (by assumption) ?_
                simp only [Act.put, List.setIfInBounds_toArray, List.set_cons_zero, List.set_cons_succ]
                refine wpAnyH_take (i := 6) (oi := { dst := some 141, op := Op.nilCheck (Operand.tmp 140), type := 0, pos := "ref.go:305", after := #[{ on := 5, ground := Ground.data }, { on := 4, ground := Ground.guard }], guard := some (4, true) }) (v := undef) rfl (by kernel_rfl) (by kernel_rfl) (by kernel_rfl) (fun _ _ _ h => h) (Or.inr ⟨by rfl, rfl⟩) (by assumption) ?_
                simp only [Act.put, List.setIfInBounds_toArray, List.set_cons_zero, List.set_cons_succ]
                refine wpAnyH_take (i := 7) (oi := { dst := some 142, op := Op.fieldAddr 52 (Operand.tmp 141) 0, type := 0, pos := "ref.go:305", after := #[{ on := 6, ground := Ground.data }, { on := 4, ground := Ground.guard }], guard := some (4, true) }) (v := undef) rfl (by kernel_rfl) (by kernel_rfl) (by kernel_rfl) (fun _ _ _ h => h) (Or.inr ⟨by rfl, rfl⟩) (by assumption) ?_
                simp only [Act.put, List.setIfInBounds_toArray, List.set_cons_zero, List.set_cons_succ]
                refine wpAnyH_take (i := 8) (oi := { dst := some 143, op := Op.load 22 (Operand.tmp 142), type := 22, pos := "ref.go:305", after := #[{ on := 7, ground := Ground.data }, { on := 4, ground := Ground.guard }], guard := some (4, true) }) (v := undef) rfl (by kernel_rfl) (by kernel_rfl) (by kernel_rfl) (fun _ _ _ h => h) (Or.inr ⟨by rfl, rfl⟩) (by assumption) ?_
                simp only [Act.put, List.setIfInBounds_toArray, List.set_cons_zero, List.set_cons_succ]
                refine wpAnyH_take (i := 9) (oi := { dst := some 144, op := Op.move (Operand.tmp 14), type := 3, pos := "ref.go:305", after := #[{ on := 4, ground := Ground.guard }], guard := some (4, true) }) (v := undef) rfl (by kernel_rfl) (by kernel_rfl) (by kernel_rfl) (fun _ _ _ h => h) (Or.inr ⟨by rfl, rfl⟩) (by assumption) ?_
                simp only [Act.put, List.setIfInBounds_toArray, List.set_cons_zero, List.set_cons_succ]
                refine wpAnyH_take (i := 10) (oi := { dst := some 145, op := Op.move (Operand.tmp 11), type := 50, pos := "ref.go:305", after := #[{ on := 4, ground := Ground.guard }], guard := some (4, true) }) (v := undef) rfl (by kernel_rfl) (by kernel_rfl) (by kernel_rfl) (fun _ _ _ h => h) (Or.inr ⟨by rfl, rfl⟩) (by assumption) ?_
                simp only [Act.put, List.setIfInBounds_toArray, List.set_cons_zero, List.set_cons_succ]
                refine wpAnyH_take (i := 11) (oi := { dst := some 146, op := Op.nilCheck (Operand.tmp 145), type := 0, pos := "ref.go:305", after := #[{ on := 10, ground := Ground.data }, { on := 4, ground := Ground.guard }], guard := some (4, true) }) (v := undef) rfl (by kernel_rfl) (by kernel_rfl) (by kernel_rfl) (fun _ _ _ h => h) (Or.inr ⟨by rfl, rfl⟩) (by assumption) ?_
                simp only [Act.put, List.setIfInBounds_toArray, List.set_cons_zero, List.set_cons_succ]
                refine wpAnyH_take (i := 12) (oi := { dst := some 147, op := Op.fieldAddr 52 (Operand.tmp 146) 1, type := 0, pos := "ref.go:305", after := #[{ on := 11, ground := Ground.data }, { on := 4, ground := Ground.guard }], guard := some (4, true) }) (v := undef) rfl (by kernel_rfl) (by kernel_rfl) (by kernel_rfl) (fun _ _ _ h => h) (Or.inr ⟨by rfl, rfl⟩) (by assumption) ?_
                simp only [Act.put, List.setIfInBounds_toArray, List.set_cons_zero, List.set_cons_succ]
                refine wpAnyH_take (i := 13) (oi := { dst := some 148, op := Op.load 3 (Operand.tmp 147), type := 3, pos := "ref.go:305", after := #[{ on := 12, ground := Ground.data }, { on := 4, ground := Ground.guard }], guard := some (4, true) }) (v := undef) rfl (by kernel_rfl) (by kernel_rfl) (by kernel_rfl) (fun _ _ _ h => h) (Or.inr ⟨by rfl, rfl⟩) (by assumption) ?_
                simp only [Act.put, List.setIfInBounds_toArray, List.set_cons_zero, List.set_cons_succ]
                refine wpAnyH_take (i := 14) (oi := { dst := some 149, op := Op.slice 22 (Operand.tmp 143) (some (Operand.tmp 144)) (some (Operand.tmp 148)) none, type := 22, pos := "ref.go:305", after := #[{ on := 8, ground := Ground.data }, { on := 9, ground := Ground.data }, { on := 13, ground := Ground.data }, { on := 4, ground := Ground.guard }], guard := some (4, true) }) (v := undef) rfl (by kernel_rfl) (by kernel_rfl) (by kernel_rfl) (fun _ _ _ h => h) (Or.inr ⟨by rfl, rfl⟩) (by assumption) ?_
                simp only [Act.put, List.setIfInBounds_toArray, List.set_cons_zero, List.set_cons_succ]
                refine wpAnyH_take (i := 15) (oi := { dst := some 150, op := Op.move (Operand.tmp 0), type := 50, pos := "ref.go:305", after := #[{ on := 4, ground := Ground.guard }], guard := some (4, true) }) (v := undef) rfl (by kernel_rfl) (by kernel_rfl) (by kernel_rfl) (fun _ _ _ h => h) (Or.inr ⟨by rfl, rfl⟩) (by assumption) ?_
                simp only [Act.put, List.setIfInBounds_toArray, List.set_cons_zero, List.set_cons_succ]
                refine wpAnyH_take (i := 16) (oi := { dst := some 151, op := Op.nilCheck (Operand.tmp 150), type := 0, pos := "ref.go:305", after := #[{ on := 15, ground := Ground.data }, { on := 4, ground := Ground.guard }], guard := some (4, true) }) (v := undef) rfl (by kernel_rfl) (by kernel_rfl) (by kernel_rfl) (fun _ _ _ h => h) (Or.inr ⟨by rfl, rfl⟩) (by assumption) ?_
                simp only [Act.put, List.setIfInBounds_toArray, List.set_cons_zero, List.set_cons_succ]
                refine wpAnyH_take (i := 17) (oi := { dst := some 152, op := Op.fieldAddr 52 (Operand.tmp 151) 0, type := 0, pos := "ref.go:305", after := #[{ on := 16, ground := Ground.data }, { on := 4, ground := Ground.guard }], guard := some (4, true) }) (v := undef) rfl (by kernel_rfl) (by kernel_rfl) (by kernel_rfl) (fun _ _ _ h => h) (Or.inr ⟨by rfl, rfl⟩) (by assumption) ?_
                simp only [Act.put, List.setIfInBounds_toArray, List.set_cons_zero, List.set_cons_succ]
                refine wpAnyH_take (i := 18) (oi := { dst := some 153, op := Op.load 22 (Operand.tmp 152), type := 22, pos := "ref.go:305", after := #[{ on := 17, ground := Ground.data }, { on := 4, ground := Ground.guard }], guard := some (4, true) }) (v := undef) rfl (by kernel_rfl) (by kernel_rfl) (by kernel_rfl) (fun _ _ _ h => h) (Or.inr ⟨by rfl, rfl⟩) (by assumption) ?_
                simp only [Act.put, List.setIfInBounds_toArray, List.set_cons_zero, List.set_cons_succ]
                refine wpAnyH_take (i := 19) (oi := { dst := some 154, op := Op.move (Operand.tmp 12), type := 3, pos := "ref.go:305", after := #[{ on := 4, ground := Ground.guard }], guard := some (4, true) }) (v := undef) rfl (by kernel_rfl) (by kernel_rfl) (by kernel_rfl) (fun _ _ _ h => h) (Or.inr ⟨by rfl, rfl⟩) (by assumption) ?_
                simp only [Act.put, List.setIfInBounds_toArray, List.set_cons_zero, List.set_cons_succ]
                refine wpAnyH_take (i := 20) (oi := { dst := some 155, op := Op.move (Operand.tmp 14), type := 3, pos := "ref.go:305", after := #[{ on := 4, ground := Ground.guard }], guard := some (4, true) }) (v := undef) rfl (by kernel_rfl) (by kernel_rfl) (by kernel_rfl) (fun _ _ _ h => h) (Or.inr ⟨by rfl, rfl⟩) (by assumption) ?_
                simp only [Act.put, List.setIfInBounds_toArray, List.set_cons_zero, List.set_cons_succ]
                refine wpAnyH_take (i := 21) (oi := { dst := some 156, op := Op.slice 22 (Operand.tmp 153) (some (Operand.tmp 154)) (some (Operand.tmp 155)) none, type := 22, pos := "ref.go:305", after := #[{ on := 18, ground := Ground.data }, { on := 19, ground := Ground.data }, { on := 20, ground := Ground.data }, { on := 4, ground := Ground.guard }], guard := some (4, true) }) (v := undef) rfl (by kernel_rfl) (by kernel_rfl) (by kernel_rfl) (fun _ _ _ h => h) (Or.inr ⟨by rfl, rfl⟩) (by assumption) ?_
                simp only [Act.put, List.setIfInBounds_toArray, List.set_cons_zero, List.set_cons_succ]
                refine wpAnyH_take (i := 22) (oi := { dst := some 157, op := Op.call { callee := Callee.value (Operand.func 31), args := #[Operand.tmp 149, Operand.tmp 156], argTypes := #[22, 22] }, type := 4, pos := "ref.go:305", after := #[{ on := 14, ground := Ground.data }, { on := 21, ground := Ground.data }, { on := 4, ground := Ground.chain }, { on := 4, ground := Ground.guard }], guard := some (4, true) }) (v := undef) rfl (by kernel_rfl) (by kernel_rfl) (by kernel_rfl) (fun _ _ _ h => h) (Or.inr ⟨by rfl, rfl⟩) (by assumption) ?_
                simp only [Act.put, List.setIfInBounds_toArray, List.set_cons_zero, List.set_cons_succ]
                refine wpAnyH_take (i := 23) (oi := { dst := some 158, op := Op.pick (Operand.tmp 139) (Operand.tmp 157) (Operand.const (Value.bool false)), type := 4, pos := "ref.go:305", after := #[{ on := 4, ground := Ground.data }, { on := 22, ground := Ground.data }, { on := 1, ground := Ground.guard }], guard := some (1, false) }) (v := undef) rfl (by kernel_rfl) (by kernel_rfl) (by kernel_rfl) (fun _ _ _ h => h) (Or.inr ⟨by rfl, rfl⟩) (by assumption) ?_
                simp only [Act.put, List.setIfInBounds_toArray, List.set_cons_zero, List.set_cons_succ]
                refine wpAnyH_take (i := 24) (oi := { dst := some 159, op := Op.pick (Operand.tmp 136) (Operand.const (Value.bool true)) (Operand.tmp 158), type := 4, pos := "ref.go:305", after := #[{ on := 1, ground := Ground.data }, { on := 23, ground := Ground.data }], guard := none }) (v := ?_) rfl (by kernel_rfl) (by kernel_rfl) (by kernel_rfl) (fun _ _ _ h => h) (Or.inl ⟨by rfl, ?ray24⟩) (by assumption) ?_
                case ray24 => (intro w_ hSw; (try dsimp only at hSw); go_simp; try with_reducible rfl)
                simp only [Act.put, List.setIfInBounds_toArray, List.set_cons_zero, List.set_cons_succ]
                refine wpAnyH_take (i := 25) (oi := { dst := some 13, op := Op.assign (Operand.tmp 159), type := 4, pos := "ref.go:305", after := #[{ on := 24, ground := Ground.data }, { on := 22, ground := Ground.chain }, { on := 0, ground := Ground.phase }, { on := 1, ground := Ground.phase }, { on := 2, ground := Ground.phase }, { on := 3, ground := Ground.phase }, { on := 4, ground := Ground.phase }, { on := 5, ground := Ground.phase }, { on := 6, ground := Ground.phase }, { on := 7, ground := Ground.phase }, { on := 8, ground := Ground.phase }, { on := 9, ground := Ground.phase }, { on := 10, ground := Ground.phase }, { on := 11, ground := Ground.phase }, { on := 12, ground := Ground.phase }, { on := 13, ground := Ground.phase }, { on := 14, ground := Ground.phase }, { on := 15, ground := Ground.phase }, { on := 16, ground := Ground.phase }, { on := 17, ground := Ground.phase }, { on := 18, ground := Ground.phase }, { on := 19, ground := Ground.phase }, { on := 20, ground := Ground.phase }, { on := 21, ground := Ground.phase }, { on := 22, ground := Ground.phase }, { on := 23, ground := Ground.phase }, { on := 24, ground := Ground.phase }], guard := none }) (v := ?_) rfl (by kernel_rfl) (by kernel_rfl) (by kernel_rfl) (fun _ _ _ h => h) (Or.inl ⟨by rfl, ?ray25⟩) (by assumption) ?_
                case ray25 => (intro w_ hSw; (try dsimp only at hSw); go_simp; try with_reducible rfl)
                simp only [Act.put, List.setIfInBounds_toArray, List.set_cons_zero, List.set_cons_succ]
                refine wpAnyH_done (by kernel_rfl) ?_ _
                go_wp2
                go_roundw
                case rel =>
                  first
                    | exact ⟨_, _, _, _, _, _, _, _, rfl, rfl, HK9⟩
                    | ((repeat apply Exists.intro); exact ⟨⟨_, _, _, _, _, _, _, _, rfl, rfl, HK9⟩, rfl⟩)
                case measure => (have h1 := (unhide HK9).k.atOf; have h2 := (unhide HK).k.atOf; rw [h1, h2]; omega)
              | false =>
                rcases (unhide HK).last with ⟨hdn, rfl⟩ | ⟨d0, v0, ls, hdn, rfl, hls⟩
                · have hfl : fallsP ((dn ++ [(v, leftB b sk s')]).map (·.2)) = false := by rw [hdn]; rfl
                  rw [hfl] at HK8
                  have HK9 := hide (unhide HK8).drew
                  clear hfl hdn
                  refine wp_region_held_drew (S := fun w' => w'.cell? ⟨K, 0, none⟩ = some (.slice sb N cb) ∧ w'.cell? ⟨K2, 1, none⟩ = some (.int .i64 (s' : Int))) (by kernel_rfl) ?rcS (fun hHeld => ?_)
                  case rcS => (try dsimp only); (go_keep)
                  refine wpAnyH_take (i := 0) (oi := { dst := some 135, op := Op.move (Operand.tmp 13), type := 4, pos := "ref.go:305", after := #[], guard := none }) (v := ?_) rfl (by kernel_rfl) (by kernel_rfl) (by kernel_rfl) (fun _ _ _ h => h) (Or.inl ⟨by rfl, ?rcy0⟩) (by assumption) ?_
                  case rcy0 => (intro w_ hSw; (try dsimp only at hSw); go_simp; try with_reducible rfl)
                  simp only [Act.put, List.setIfInBounds_toArray, List.set_cons_zero, List.set_cons_succ]
                  refine wpAnyH_take (i := 1) (oi := { dst := some 136, op := Op.move (Operand.tmp 135), type := 4, pos := "ref.go:305", after := #[{ on := 0, ground := Ground.data }], guard := none }) (v := ?_) rfl (by kernel_rfl) (by kernel_rfl) (by kernel_rfl) (fun _ _ _ h => h) (Or.inl ⟨by rfl, ?rcy1⟩) (by assumption) ?_
                  case rcy1 => (intro w_ hSw; (try dsimp only at hSw); go_simp; try with_reducible rfl)
                  simp only [Act.put, List.setIfInBounds_toArray, List.set_cons_zero, List.set_cons_succ]
                  refine wpAnyH_take (i := 2) (oi := { dst := some 137, op := Op.move (Operand.tmp 12), type := 3, pos := "ref.go:305", after := #[{ on := 1, ground := Ground.guard }], guard := some (1, false) }) (v := ?_) rfl (by kernel_rfl) (by kernel_rfl) (by kernel_rfl) (fun _ _ _ h => h) (Or.inl ⟨by rfl, ?rcy2⟩) (by assumption) ?_
                  case rcy2 => (intro w_ hSw; (try dsimp only at hSw); go_simp; try with_reducible rfl)
                  simp only [Act.put, List.setIfInBounds_toArray, List.set_cons_zero, List.set_cons_succ]
                  refine wpAnyH_take (i := 3) (oi := { dst := some 138, op := Op.binOp BinOp.geq 3 (Operand.tmp 137) (Operand.const (Value.int IntKind.i64 0)) 3, type := 4, pos := "ref.go:305", after := #[{ on := 2, ground := Ground.data }, { on := 1, ground := Ground.guard }], guard := some (1, false) }) (v := ?_) rfl (by kernel_rfl) (by kernel_rfl) (by kernel_rfl) (fun _ _ _ h => h) (Or.inl ⟨by rfl, ?rcy3⟩) (by assumption) ?_
                  case rcy3 => (intro w_ hSw; (try dsimp only at hSw); go_simp; try with_reducible rfl)
                  simp only [Act.put, List.setIfInBounds_toArray, List.set_cons_zero, List.set_cons_succ]
                  refine wpAnyH_take (i := 4) (oi := { dst := some 139, op := Op.move (Operand.tmp 138), type := 4, pos := "ref.go:305", after := #[{ on := 3, ground := Ground.data }, { on := 1, ground := Ground.chain }, { on := 1, ground := Ground.guard }], guard := some (1, false) }) (v := ?_) rfl (by kernel_rfl) (by kernel_rfl) (by kernel_rfl) (fun _ _ _ h => h) (Or.inl ⟨by rfl, ?rcy4⟩) (by assumption) ?_
                  case rcy4 => (intro w_ hSw; (try dsimp only at hSw); go_simp; try with_reducible rfl)
                  simp only [Act.put, List.setIfInBounds_toArray, List.set_cons_zero, List.set_cons_succ]
                  refine wpAnyH_take (i := 5) (oi := { dst := some 140, op := Op.move (Operand.tmp 0), type := 50, pos := "ref.go:305", after := #[{ on := 4, ground := Ground.guard }], guard := some (4, true) }) (v := undef) rfl (by kernel_rfl) (by kernel_rfl) (by kernel_rfl) (fun _ _ _ h => h) (Or.inr ⟨by rfl, rfl⟩) (by assumption) ?_
                  simp only [Act.put, List.setIfInBounds_toArray, List.set_cons_zero, List.set_cons_succ]
                  refine wpAnyH_take (i := 6) (oi := { dst := some 141, op := Op.nilCheck (Operand.tmp 140), type := 0, pos := "ref.go:305", after := #[{ on := 5, ground := Ground.data }, { on := 4, ground := Ground.guard }], guard := some (4, true) }) (v := undef) rfl (by kernel_rfl) (by kernel_rfl) (by kernel_rfl) (fun _ _ _ h => h) (Or.inr ⟨by rfl, rfl⟩) (by assumption) ?_
                  simp only [Act.put, List.setIfInBounds_toArray, List.set_cons_zero, List.set_cons_succ]
                  refine wpAnyH_take (i := 7) (oi := { dst := some 142, op := Op.fieldAddr 52 (Operand.tmp 141) 0, type := 0, pos := "ref.go:305", after := #[{ on := 6, ground := Ground.data }, { on := 4, ground := Ground.guard }], guard := some (4, true) }) (v := undef) rfl (by kernel_rfl) (by kernel_rfl) (by kernel_rfl) (fun _ _ _ h => h) (Or.inr ⟨by rfl, rfl⟩) (by assumption) ?_
                  simp only [Act.put, List.setIfInBounds_toArray, List.set_cons_zero, List.set_cons_succ]
                  refine wpAnyH_take (i := 8) (oi := { dst := some 143, op := Op.load 22 (Operand.tmp 142), type := 22, pos := "ref.go:305", after := #[{ on := 7, ground := Ground.data }, { on := 4, ground := Ground.guard }], guard := some (4, true) }) (v := undef) rfl (by kernel_rfl) (by kernel_rfl) (by kernel_rfl) (fun _ _ _ h => h) (Or.inr ⟨by rfl, rfl⟩) (by assumption) ?_
                  simp only [Act.put, List.setIfInBounds_toArray, List.set_cons_zero, List.set_cons_succ]
                  refine wpAnyH_take (i := 9) (oi := { dst := some 144, op := Op.move (Operand.tmp 14), type := 3, pos := "ref.go:305", after := #[{ on := 4, ground := Ground.guard }], guard := some (4, true) }) (v := undef) rfl (by kernel_rfl) (by kernel_rfl) (by kernel_rfl) (fun _ _ _ h => h) (Or.inr ⟨by rfl, rfl⟩) (by assumption) ?_
                  simp only [Act.put, List.setIfInBounds_toArray, List.set_cons_zero, List.set_cons_succ]
                  refine wpAnyH_take (i := 10) (oi := { dst := some 145, op := Op.move (Operand.tmp 11), type := 50, pos := "ref.go:305", after := #[{ on := 4, ground := Ground.guard }], guard := some (4, true) }) (v := undef) rfl (by kernel_rfl) (by kernel_rfl) (by kernel_rfl) (fun _ _ _ h => h) (Or.inr ⟨by rfl, rfl⟩) (by assumption) ?_
                  simp only [Act.put, List.setIfInBounds_toArray, List.set_cons_zero, List.set_cons_succ]
                  refine wpAnyH_take (i := 11) (oi := { dst := some 146, op := Op.nilCheck (Operand.tmp 145), type := 0, pos := "ref.go:305", after := #[{ on := 10, ground := Ground.data }, { on := 4, ground := Ground.guard }], guard := some (4, true) }) (v := undef) rfl (by kernel_rfl) (by kernel_rfl) (by kernel_rfl) (fun _ _ _ h => h) (Or.inr ⟨by rfl, rfl⟩) (by assumption) ?_
                  simp only [Act.put, List.setIfInBounds_toArray, List.set_cons_zero, List.set_cons_succ]
                  refine wpAnyH_take (i := 12) (oi := { dst := some 147, op := Op.fieldAddr 52 (Operand.tmp 146) 1, type := 0, pos := "ref.go:305", after := #[{ on := 11, ground := Ground.data }, { on := 4, ground := Ground.guard }], guard := some (4, true) }) (v := undef) rfl (by kernel_rfl) (by kernel_rfl) (by kernel_rfl) (fun _ _ _ h => h) (Or.inr ⟨by rfl, rfl⟩) (by assumption) ?_
                  simp only [Act.put, List.setIfInBounds_toArray, List.set_cons_zero, List.set_cons_succ]
                  refine wpAnyH_take (i := 13) (oi := { dst := some 148, op := Op.load 3 (Operand.tmp 147), type := 3, pos := "ref.go:305", after := #[{ on := 12, ground := Ground.data }, { on := 4, ground := Ground.guard }], guard := some (4, true) }) (v := undef) rfl (by kernel_rfl) (by kernel_rfl) (by kernel_rfl) (fun _ _ _ h => h) (Or.inr ⟨by rfl, rfl⟩) (by assumption) ?_
                  simp only [Act.put, List.setIfInBounds_toArray, List.set_cons_zero, List.set_cons_succ]
                  refine wpAnyH_take (i := 14) (oi := { dst := some 149, op := Op.slice 22 (Operand.tmp 143) (some (Operand.tmp 144)) (some (Operand.tmp 148)) none, type := 22, pos := "ref.go:305", after := #[{ on := 8, ground := Ground.data }, { on := 9, ground := Ground.data }, { on := 13, ground := Ground.data }, { on := 4, ground := Ground.guard }], guard := some (4, true) }) (v := undef) rfl (by kernel_rfl) (by kernel_rfl) (by kernel_rfl) (fun _ _ _ h => h) (Or.inr ⟨by rfl, rfl⟩) (by assumption) ?_
                  simp only [Act.put, List.setIfInBounds_toArray, List.set_cons_zero, List.set_cons_succ]
                  refine wpAnyH_take (i := 15) (oi := { dst := some 150, op := Op.move (Operand.tmp 0), type := 50, pos := "ref.go:305", after := #[{ on := 4, ground := Ground.guard }], guard := some (4, true) }) (v := undef) rfl (by kernel_rfl) (by kernel_rfl) (by kernel_rfl) (fun _ _ _ h => h) (Or.inr ⟨by rfl, rfl⟩) (by assumption) ?_
                  simp only [Act.put, List.setIfInBounds_toArray, List.set_cons_zero, List.set_cons_succ]
                  refine wpAnyH_take (i := 16) (oi := { dst := some 151, op := Op.nilCheck (Operand.tmp 150), type := 0, pos := "ref.go:305", after := #[{ on := 15, ground := Ground.data }, { on := 4, ground := Ground.guard }], guard := some (4, true) }) (v := undef) rfl (by kernel_rfl) (by kernel_rfl) (by kernel_rfl) (fun _ _ _ h => h) (Or.inr ⟨by rfl, rfl⟩) (by assumption) ?_
                  simp only [Act.put, List.setIfInBounds_toArray, List.set_cons_zero, List.set_cons_succ]
                  refine wpAnyH_take (i := 17) (oi := { dst := some 152, op := Op.fieldAddr 52 (Operand.tmp 151) 0, type := 0, pos := "ref.go:305", after := #[{ on := 16, ground := Ground.data }, { on := 4, ground := Ground.guard }], guard := some (4, true) }) (v := undef) rfl (by kernel_rfl) (by kernel_rfl) (by kernel_rfl) (fun _ _ _ h => h) (Or.inr ⟨by rfl, rfl⟩) (by assumption) ?_
                  simp only [Act.put, List.setIfInBounds_toArray, List.set_cons_zero, List.set_cons_succ]
                  refine wpAnyH_take (i := 18) (oi := { dst := some 153, op := Op.load 22 (Operand.tmp 152), type := 22, pos := "ref.go:305", after := #[{ on := 17, ground := Ground.data }, { on := 4, ground := Ground.guard }], guard := some (4, true) }) (v := undef) rfl (by kernel_rfl) (by kernel_rfl) (by kernel_rfl) (fun _ _ _ h => h) (Or.inr ⟨by rfl, rfl⟩) (by assumption) ?_
                  simp only [Act.put, List.setIfInBounds_toArray, List.set_cons_zero, List.set_cons_succ]
                  refine wpAnyH_take (i := 19) (oi := { dst := some 154, op := Op.move (Operand.tmp 12), type := 3, pos := "ref.go:305", after := #[{ on := 4, ground := Ground.guard }], guard := some (4, true) }) (v := undef) rfl (by kernel_rfl) (by kernel_rfl) (by kernel_rfl) (fun _ _ _ h => h) (Or.inr ⟨by rfl, rfl⟩) (by assumption) ?_
                  simp only [Act.put, List.setIfInBounds_toArray, List.set_cons_zero, List.set_cons_succ]
                  refine wpAnyH_take (i := 20) (oi := { dst := some 155, op := Op.move (Operand.tmp 14), type := 3, pos := "ref.go:305", after := #[{ on := 4, ground := Ground.guard }], guard := some (4, true) }) (v := undef) rfl (by kernel_rfl) (by kernel_rfl) (by kernel_rfl) (fun _ _ _ h => h) (Or.inr ⟨by rfl, rfl⟩) (by assumption) ?_
                  simp only [Act.put, List.setIfInBounds_toArray, List.set_cons_zero, List.set_cons_succ]
                  refine wpAnyH_take (i := 21) (oi := { dst := some 156, op := Op.slice 22 (Operand.tmp 153) (some (Operand.tmp 154)) (some (Operand.tmp 155)) none, type := 22, pos := "ref.go:305", after := #[{ on := 18, ground := Ground.data }, { on := 19, ground := Ground.data }, { on := 20, ground := Ground.data }, { on := 4, ground := Ground.guard }], guard := some (4, true) }) (v := undef) rfl (by kernel_rfl) (by kernel_rfl) (by kernel_rfl) (fun _ _ _ h => h) (Or.inr ⟨by rfl, rfl⟩) (by assumption) ?_
                  simp only [Act.put, List.setIfInBounds_toArray, List.set_cons_zero, List.set_cons_succ]
                  refine wpAnyH_take (i := 22) (oi := { dst := some 157, op := Op.call { callee := Callee.value (Operand.func 31), args := #[Operand.tmp 149, Operand.tmp 156], argTypes := #[22, 22] }, type := 4, pos := "ref.go:305", after := #[{ on := 14, ground := Ground.data }, { on := 21, ground := Ground.data }, { on := 4, ground := Ground.chain }, { on := 4, ground := Ground.guard }], guard := some (4, true) }) (v := undef) rfl (by kernel_rfl) (by kernel_rfl) (by kernel_rfl) (fun _ _ _ h => h) (Or.inr ⟨by rfl, rfl⟩) (by assumption) ?_
                  simp only [Act.put, List.setIfInBounds_toArray, List.set_cons_zero, List.set_cons_succ]
                  refine wpAnyH_take (i := 23) (oi := { dst := some 158, op := Op.pick (Operand.tmp 139) (Operand.tmp 157) (Operand.const (Value.bool false)), type := 4, pos := "ref.go:305", after := #[{ on := 4, ground := Ground.data }, { on := 22, ground := Ground.data }, { on := 1, ground := Ground.guard }], guard := some (1, false) }) (v := ?_) rfl (by kernel_rfl) (by kernel_rfl) (by kernel_rfl) (fun _ _ _ h => h) (Or.inl ⟨by rfl, ?rcy23⟩) (by assumption) ?_
                  case rcy23 => (intro w_ hSw; (try dsimp only at hSw); go_simp; try with_reducible rfl)
                  simp only [Act.put, List.setIfInBounds_toArray, List.set_cons_zero, List.set_cons_succ]
                  refine wpAnyH_take (i := 24) (oi := { dst := some 159, op := Op.pick (Operand.tmp 136) (Operand.const (Value.bool true)) (Operand.tmp 158), type := 4, pos := "ref.go:305", after := #[{ on := 1, ground := Ground.data }, { on := 23, ground := Ground.data }], guard := none }) (v := ?_) rfl (by kernel_rfl) (by kernel_rfl) (by kernel_rfl) (fun _ _ _ h => h) (Or.inl ⟨by rfl, ?rcy24⟩) (by assumption) ?_
                  case rcy24 => (intro w_ hSw; (try dsimp only at hSw); go_simp; try with_reducible rfl)
                  simp only [Act.put, List.setIfInBounds_toArray, List.set_cons_zero, List.set_cons_succ]
                  refine wpAnyH_take (i := 25) (oi := { dst := some 13, op := Op.assign (Operand.tmp 159), type := 4, pos := "ref.go:305", after := #[{ on := 24, ground := Ground.data }, { on := 22, ground := Ground.chain }, { on := 0, ground := Ground.phase }, { on := 1, ground := Ground.phase }, { on := 2, ground := Ground.phase }, { on := 3, ground := Ground.phase }, { on := 4, ground := Ground.phase }, { on := 5, ground := Ground.phase }, { on := 6, ground := Ground.phase }, { on := 7, ground := Ground.phase }, { on := 8, ground := Ground.phase }, { on := 9, ground := Ground.phase }, { on := 10, ground := Ground.phase }, { on := 11, ground := Ground.phase }, { on := 12, ground := Ground.phase }, { on := 13, ground := Ground.phase }, { on := 14, ground := Ground.phase }, { on := 15, ground := Ground.phase }, { on := 16, ground := Ground.phase }, { on := 17, ground := Ground.phase }, { on := 18, ground := Ground.phase }, { on := 19, ground := Ground.phase }, { on := 20, ground := Ground.phase }, { on := 21, ground := Ground.phase }, { on := 22, ground := Ground.phase }, { on := 23, ground := Ground.phase }, { on := 24, ground := Ground.phase }], guard := none }) (v := ?_) rfl (by kernel_rfl) (by kernel_rfl) (by kernel_rfl) (fun _ _ _ h => h) (Or.inl ⟨by rfl, ?rcy25⟩) (by assumption) ?_
                  case rcy25 => (intro w_ hSw; (try dsimp only at hSw); go_simp; try with_reducible rfl)
                  simp only [Act.put, List.setIfInBounds_toArray, List.set_cons_zero, List.set_cons_succ]
                  refine wpAnyH_done (by kernel_rfl) ?_ _
                  go_wp2
                  go_roundw
                  case rel =>
                    first
                      | exact ⟨_, _, _, _, _, _, _, _, rfl, rfl, HK9⟩
                      | ((repeat apply Exists.intro); exact ⟨⟨_, _, _, _, _, _, _, _, rfl, rfl, HK9⟩, rfl⟩)
                  case measure => (have h1 := (unhide HK9).k.atOf; have h2 := (unhide HK).k.atOf; rw [h1, h2]; omega)
                · have hfl : fallsP ((dn ++ [(v, leftB b sk s')]).map (·.2)) = lessP (leftB b sk s') (leftB b ls sk) := by
                    have h1 := (unhide HK).fl
                    rw [hdn, List.map_append] at h1
                    rw [hdn, List.map_append, List.map_append]
                    show fallsP ((_ ++ [leftB b ls sk]) ++ [leftB b sk s']) = _
                    rw [falls_next]
                    have h2 : fallsP (d0.map (·.2) ++ [leftB b ls sk]) = false := h1.symm
                    rw [h2]
                    rfl
                  rw [hfl] at HK8
                  obtain ⟨n1, hn1⟩ : ∃ n1, sk + n1 = s' := ⟨s' - sk, by omega⟩
                  obtain ⟨n2, hn2⟩ : ∃ n2, ls + n2 = sk := ⟨sk - ls, by omega⟩
                  obtain ⟨sa, ca, hsa, hpa⟩ := part_left (unhide HN) (unhide Hbya) hn1 (by have := unhide HN; omega)
                  obtain ⟨sz, cz, hsz', hpz⟩ := part_left (unhide HN) (unhide Hbya) hn2 (by have := unhide HN; omega)
                  have Hless := hide (less_any w8.drew _ _ _ _ (hpa _ (unhide Hbya)) (hpz _ (unhide Hbya)) (by rw [len_leftB (by omega)]; omega) (by rw [len_leftB (by omega)]; omega))
                  have ls0 : decide ((0 : Int) ≤ (ls : Int)) = true := by simp
                  obtain ⟨le, hle2⟩ : ∃ le, lessP (leftB b sk s') (leftB b ls sk) = le := ⟨_, rfl⟩
                  rw [hle2] at Hless HK8
                  clear hfl hdn hpa hpz hn1 hn2 hle2
                  refine wp_region_held_drew (S := fun w' => w'.cell? ⟨K, 0, none⟩ = some (.slice sb N cb) ∧ w'.cell? ⟨K2, 1, none⟩ = some (.int .i64 (s' : Int))) (by kernel_rfl) ?rdS (fun hHeld => ?_)
                  case rdS => (try dsimp only); (go_keep)
                  refine wpAnyH_take (i := 0) (oi := { dst := some 135, op := Op.move (Operand.tmp 13), type := 4, pos := "ref.go:305", after := #[], guard := none }) (v := ?_) rfl (by kernel_rfl) (by kernel_rfl) (by kernel_rfl) (fun _ _ _ h => h) (Or.inl ⟨by rfl, ?rdy0⟩) (by assumption) ?_
                  case rdy0 => (intro w_ hSw; (try dsimp only at hSw); go_simp; try with_reducible rfl)
                  simp only [Act.put, List.setIfInBounds_toArray, List.set_cons_zero, List.set_cons_succ]
                  refine wpAnyH_take (i := 1) (oi := { dst := some 136, op := Op.move (Operand.tmp 135), type := 4, pos := "ref.go:305", after := #[{ on := 0, ground := Ground.data }], guard := none }) (v := ?_) rfl (by kernel_rfl) (by kernel_rfl) (by kernel_rfl) (fun _ _ _ h => h) (Or.inl ⟨by rfl, ?rdy1⟩) (by assumption) ?_
                  case rdy1 => (intro w_ hSw; (try dsimp only at hSw); go_simp; try with_reducible rfl)
                  simp only [Act.put, List.setIfInBounds_toArray, List.set_cons_zero, List.set_cons_succ]
                  refine wpAnyH_take (i := 2) (oi := { dst := some 137, op := Op.move (Operand.tmp 12), type := 3, pos := "ref.go:305", after := #[{ on := 1, ground := Ground.guard }], guard := some (1, false) }) (v := ?_) rfl (by kernel_rfl) (by kernel_rfl) (by kernel_rfl) (fun _ _ _ h => h) (Or.inl ⟨by rfl, ?rdy2⟩) (by assumption) ?_
                  case rdy2 => (intro w_ hSw; (try dsimp only at hSw); go_simp; try with_reducible rfl)
                  simp only [Act.put, List.setIfInBounds_toArray, List.set_cons_zero, List.set_cons_succ]
                  refine wpAnyH_take (i := 3) (oi := { dst := some 138, op := Op.binOp BinOp.geq 3 (Operand.tmp 137) (Operand.const (Value.int IntKind.i64 0)) 3, type := 4, pos := "ref.go:305", after := #[{ on := 2, ground := Ground.data }, { on := 1, ground := Ground.guard }], guard := some (1, false) }) (v := ?_) rfl (by kernel_rfl) (by kernel_rfl) (by kernel_rfl) (fun _ _ _ h => h) (Or.inl ⟨by rfl, ?rdy3⟩) (by assumption) ?_
                  case rdy3 => (intro w_ hSw; (try dsimp only at hSw); go_simp; try with_reducible rfl)
                  simp only [Act.put, List.setIfInBounds_toArray, List.set_cons_zero, List.set_cons_succ]
                  refine wpAnyH_take (i := 4) (oi := { dst := some 139, op := Op.move (Operand.tmp 138), type := 4, pos := "ref.go:305", after := #[{ on := 3, ground := Ground.data }, { on := 1, ground := Ground.chain }, { on := 1, ground := Ground.guard }], guard := some (1, false) }) (v := ?_) rfl (by kernel_rfl) (by kernel_rfl) (by kernel_rfl) (fun _ _ _ h => h) (Or.inl ⟨by rfl, ?rdy4⟩) (by assumption) ?_
                  case rdy4 => (intro w_ hSw; (try dsimp only at hSw); go_simp; try with_reducible rfl)
                  simp only [Act.put, List.setIfInBounds_toArray, List.set_cons_zero, List.set_cons_succ]
                  refine wpAnyH_take (i := 5) (oi := { dst := some 140, op := Op.move (Operand.tmp 0), type := 50, pos := "ref.go:305", after := #[{ on := 4, ground := Ground.guard }], guard := some (4, true) }) (v := ?_) rfl (by kernel_rfl) (by kernel_rfl) (by kernel_rfl) (fun _ _ _ h => h) (Or.inl ⟨by rfl, ?rdy5⟩) (by assumption) ?_
                  case rdy5 => (intro w_ hSw; (try dsimp only at hSw); go_simp; try with_reducible rfl)
                  simp only [Act.put, List.setIfInBounds_toArray, List.set_cons_zero, List.set_cons_succ]
                  refine wpAnyH_take (i := 6) (oi := { dst := some 141, op := Op.nilCheck (Operand.tmp 140), type := 0, pos := "ref.go:305", after := #[{ on := 5, ground := Ground.data }, { on := 4, ground := Ground.guard }], guard := some (4, true) }) (v := ?_) rfl (by kernel_rfl) (by kernel_rfl) (by kernel_rfl) (fun _ _ _ h => h) (Or.inl ⟨by rfl, ?rdy6⟩) (by assumption) ?_
                  case rdy6 => (intro w_ hSw; (try dsimp only at hSw); go_simp; try with_reducible rfl)
                  simp only [Act.put, List.setIfInBounds_toArray, List.set_cons_zero, List.set_cons_succ]
                  refine wpAnyH_take (i := 7) (oi := { dst := some 142, op := Op.fieldAddr 52 (Operand.tmp 141) 0, type := 0, pos := "ref.go:305", after := #[{ on := 6, ground := Ground.data }, { on := 4, ground := Ground.guard }], guard := some (4, true) }) (v := ?_) rfl (by kernel_rfl) (by kernel_rfl) (by kernel_rfl) (fun _ _ _ h => h) (Or.inl ⟨by rfl, ?rdy7⟩) (by assumption) ?_
                  case rdy7 => (intro w_ hSw; (try dsimp only at hSw); go_simp; try with_reducible rfl)
                  simp only [Act.put, List.setIfInBounds_toArray, List.set_cons_zero, List.set_cons_succ]
                  refine wpAnyH_take (i := 8) (oi := { dst := some 143, op := Op.load 22 (Operand.tmp 142), type := 22, pos := "ref.go:305", after := #[{ on := 7, ground := Ground.data }, { on := 4, ground := Ground.guard }], guard := some (4, true) }) (v := ?_) rfl (by kernel_rfl) (by kernel_rfl) (by kernel_rfl) (fun _ _ _ h => h) (Or.inl ⟨by rfl, ?rdy8⟩) (by assumption) ?_
                  case rdy8 => (intro w_ hSw; (try dsimp only at hSw); go_simp; try with_reducible rfl)
                  simp only [Act.put, List.setIfInBounds_toArray, List.set_cons_zero, List.set_cons_succ]
                  refine wpAnyH_take (i := 9) (oi := { dst := some 144, op := Op.move (Operand.tmp 14), type := 3, pos := "ref.go:305", after := #[{ on := 4, ground := Ground.guard }], guard := some (4, true) }) (v := ?_) rfl (by kernel_rfl) (by kernel_rfl) (by kernel_rfl) (fun _ _ _ h => h) (Or.inl ⟨by rfl, ?rdy9⟩) (by assumption) ?_
                  case rdy9 => (intro w_ hSw; (try dsimp only at hSw); go_simp; try with_reducible rfl)
                  simp only [Act.put, List.setIfInBounds_toArray, List.set_cons_zero, List.set_cons_succ]
                  refine wpAnyH_take (i := 10) (oi := { dst := some 145, op := Op.move (Operand.tmp 11), type := 50, pos := "ref.go:305", after := #[{ on := 4, ground := Ground.guard }], guard := some (4, true) }) (v := ?_) rfl (by kernel_rfl) (by kernel_rfl) (by kernel_rfl) (fun _ _ _ h => h) (Or.inl ⟨by rfl, ?rdy10⟩) (by assumption) ?_
                  case rdy10 => (intro w_ hSw; (try dsimp only at hSw); go_simp; try with_reducible rfl)
                  simp only [Act.put, List.setIfInBounds_toArray, List.set_cons_zero, List.set_cons_succ]
                  refine wpAnyH_take (i := 11) (oi := { dst := some 146, op := Op.nilCheck (Operand.tmp 145), type := 0, pos := "ref.go:305", after := #[{ on := 10, ground := Ground.data }, { on := 4, ground := Ground.guard }], guard := some (4, true) }) (v := ?_) rfl (by kernel_rfl) (by kernel_rfl) (by kernel_rfl) (fun _ _ _ h => h) (Or.inl ⟨by rfl, ?rdy11⟩) (by assumption) ?_
                  case rdy11 => (intro w_ hSw; (try dsimp only at hSw); go_simp; try with_reducible rfl)
                  simp only [Act.put, List.setIfInBounds_toArray, List.set_cons_zero, List.set_cons_succ]
                  refine wpAnyH_take (i := 12) (oi := { dst := some 147, op := Op.fieldAddr 52 (Operand.tmp 146) 1, type := 0, pos := "ref.go:305", after := #[{ on := 11, ground := Ground.data }, { on := 4, ground := Ground.guard }], guard := some (4, true) }) (v := ?_) rfl (by kernel_rfl) (by kernel_rfl) (by kernel_rfl) (fun _ _ _ h => h) (Or.inl ⟨by rfl, ?rdy12⟩) (by assumption) ?_
                  case rdy12 => (intro w_ hSw; (try dsimp only at hSw); go_simp; try with_reducible rfl)
                  simp only [Act.put, List.setIfInBounds_toArray, List.set_cons_zero, List.set_cons_succ]
                  refine wpAnyH_take (i := 13) (oi := { dst := some 148, op := Op.load 3 (Operand.tmp 147), type := 3, pos := "ref.go:305", after := #[{ on := 12, ground := Ground.data }, { on := 4, ground := Ground.guard }], guard := some (4, true) }) (v := ?_) rfl (by kernel_rfl) (by kernel_rfl) (by kernel_rfl) (fun _ _ _ h => h) (Or.inl ⟨by rfl, ?rdy13⟩) (by assumption) ?_
                  case rdy13 => (intro w_ hSw; (try dsimp only at hSw); go_simp; try with_reducible rfl)
                  simp only [Act.put, List.setIfInBounds_toArray, List.set_cons_zero, List.set_cons_succ]
                  refine wpAnyH_take (i := 14) (oi := { dst := some 149, op := Op.slice 22 (Operand.tmp 143) (some (Operand.tmp 144)) (some (Operand.tmp 148)) none, type := 22, pos := "ref.go:305", after := #[{ on := 8, ground := Ground.data }, { on := 9, ground := Ground.data }, { on := 13, ground := Ground.data }, { on := 4, ground := Ground.guard }], guard := some (4, true) }) (v := ?_) rfl (by kernel_rfl) (by kernel_rfl) (by kernel_rfl) (fun _ _ _ h => h) (Or.inl ⟨by rfl, ?rdy14⟩) (by assumption) ?_
                  case rdy14 => (intro w_ hSw; (try dsimp only at hSw); go_simp; try with_reducible rfl)
                  simp only [Act.put, List.setIfInBounds_toArray, List.set_cons_zero, List.set_cons_succ]
                  refine wpAnyH_take (i := 15) (oi := { dst := some 150, op := Op.move (Operand.tmp 0), type := 50, pos := "ref.go:305", after := #[{ on := 4, ground := Ground.guard }], guard := some (4, true) }) (v := ?_) rfl (by kernel_rfl) (by kernel_rfl) (by kernel_rfl) (fun _ _ _ h => h) (Or.inl ⟨by rfl, ?rdy15⟩) (by assumption) ?_
                  case rdy15 => (intro w_ hSw; (try dsimp only at hSw); go_simp; try with_reducible rfl)
                  simp only [Act.put, List.setIfInBounds_toArray, List.set_cons_zero, List.set_cons_succ]
                  refine wpAnyH_take (i := 16) (oi := { dst := some 151, op := Op.nilCheck (Operand.tmp 150), type := 0, pos := "ref.go:305", after := #[{ on := 15, ground := Ground.data }, { on := 4, ground := Ground.guard }], guard := some (4, true) }) (v := ?_) rfl (by kernel_rfl) (by kernel_rfl) (by kernel_rfl) (fun _ _ _ h => h) (Or.inl ⟨by rfl, ?rdy16⟩) (by assumption) ?_
                  case rdy16 => (intro w_ hSw; (try dsimp only at hSw); go_simp; try with_reducible rfl)
                  simp only [Act.put, List.setIfInBounds_toArray, List.set_cons_zero, List.set_cons_succ]
                  refine wpAnyH_take (i := 17) (oi := { dst := some 152, op := Op.fieldAddr 52 (Operand.tmp 151) 0, type := 0, pos := "ref.go:305", after := #[{ on := 16, ground := Ground.data }, { on := 4, ground := Ground.guard }], guard := some (4, true) }) (v := ?_) rfl (by kernel_rfl) (by kernel_rfl) (by kernel_rfl) (fun _ _ _ h => h) (Or.inl ⟨by rfl, ?rdy17⟩) (by assumption) ?_
                  case rdy17 => (intro w_ hSw; (try dsimp only at hSw); go_simp; try with_reducible rfl)
                  simp only [Act.put, List.setIfInBounds_toArray, List.set_cons_zero, List.set_cons_succ]
                  refine wpAnyH_take (i := 18) (oi := { dst := some 153, op := Op.load 22 (Operand.tmp 152), type := 22, pos := "ref.go:305", after := #[{ on := 17, ground := Ground.data }, { on := 4, ground := Ground.guard }], guard := some (4, true) }) (v := ?_) rfl (by kernel_rfl) (by kernel_rfl) (by kernel_rfl) (fun _ _ _ h => h) (Or.inl ⟨by rfl, ?rdy18⟩) (by assumption) ?_
                  case rdy18 => (intro w_ hSw; (try dsimp only at hSw); go_simp; try with_reducible rfl)
                  simp only [Act.put, List.setIfInBounds_toArray, List.set_cons_zero, List.set_cons_succ]
                  refine wpAnyH_take (i := 19) (oi := { dst := some 154, op := Op.move (Operand.tmp 12), type := 3, pos := "ref.go:305", after := #[{ on := 4, ground := Ground.guard }], guard := some (4, true) }) (v := ?_) rfl (by kernel_rfl) (by kernel_rfl) (by kernel_rfl) (fun _ _ _ h => h) (Or.inl ⟨by rfl, ?rdy19⟩) (by assumption) ?_
                  case rdy19 => (intro w_ hSw; (try dsimp only at hSw); go_simp; try with_reducible rfl)
                  simp only [Act.put, List.setIfInBounds_toArray, List.set_cons_zero, List.set_cons_succ]
                  refine wpAnyH_take (i := 20) (oi := { dst := some 155, op := Op.move (Operand.tmp 14), type := 3, pos := "ref.go:305", after := #[{ on := 4, ground := Ground.guard }], guard := some (4, true) }) (v := ?_) rfl (by kernel_rfl) (by kernel_rfl) (by kernel_rfl) (fun _ _ _ h => h) (Or.inl ⟨by rfl, ?rdy20⟩) (by assumption) ?_
                  case rdy20 => (intro w_ hSw; (try dsimp only at hSw); go_simp; try with_reducible rfl)
                  simp only [Act.put, List.setIfInBounds_toArray, List.set_cons_zero, List.set_cons_succ]
                  refine wpAnyH_take (i := 21) (oi := { dst := some 156, op := Op.slice 22 (Operand.tmp 153) (some (Operand.tmp 154)) (some (Operand.tmp 155)) none, type := 22, pos := "ref.go:305", after := #[{ on := 18, ground := Ground.data }, { on := 19, ground := Ground.data }, { on := 20, ground := Ground.data }, { on := 4, ground := Ground.guard }], guard := some (4, true) }) (v := ?_) rfl (by kernel_rfl) (by kernel_rfl) (by kernel_rfl) (fun _ _ _ h => h) (Or.inl ⟨by rfl, ?rdy21⟩) (by assumption) ?_
                  case rdy21 => (intro w_ hSw; (try dsimp only at hSw); go_simp; try with_reducible rfl)
                  simp only [Act.put, List.setIfInBounds_toArray, List.set_cons_zero, List.set_cons_succ]
                  refine wpAnyH_ready (rs := [22]) (by kernel_rfl) (by simp) ?_
                  refine AllReadyH.cons (o := { dst := some 157, op := Op.call { callee := Callee.value (Operand.func 31), args := #[Operand.tmp 149, Operand.tmp 156], argTypes := #[22, 22] }, type := 4, pos := "ref.go:305", after := #[{ on := 14, ground := Ground.data }, { on := 21, ground := Ground.data }, { on := 4, ground := Ground.chain }, { on := 4, ground := Ground.guard }], guard := some (4, true) }) rfl (fun K_ hK_ => ?_) AllReadyH.nil
                  go_simp
                  go_at_call 31
                  refine (unhide Hless).mono ?_
                  rintro e w9 ⟨rfl, hb9⟩
                  have HK9 := hide ((unhide HK8).drew.below hb9)
                  obtain ⟨k0', _, _, _⟩ := (unhide HK9).q.rd.c
                  rw [unhide HN] at k0'
                  obtain ⟨_, y1', _, _⟩ := (unhide HK9).k.c
                  clear hb9
                  go_wp2_with fail
                  refine hK_.out _ _ ?rdC22 (fun hHeld => ?_)
                  case rdC22 => (try dsimp only); exact ⟨k0', y1'⟩
                  clear hK_ K_
                  refine wpAnyH_take (i := 23) (oi := { dst := some 158, op := Op.pick (Operand.tmp 139) (Operand.tmp 157) (Operand.const (Value.bool false)), type := 4, pos := "ref.go:305", after := #[{ on := 4, ground := Ground.data }, { on := 22, ground := Ground.data }, { on := 1, ground := Ground.guard }], guard := some (1, false) }) (v := ?_) rfl (by kernel_rfl) (by kernel_rfl) (by kernel_rfl) (fun _ _ _ h => h) (Or.inl ⟨by rfl, ?rdy23⟩) (by assumption) ?_
                  case rdy23 => (intro w_ hSw; (try dsimp only at hSw); go_simp; try with_reducible rfl)
                  simp only [Act.put, List.setIfInBounds_toArray, List.set_cons_zero, List.set_cons_succ]
                  refine wpAnyH_take (i := 24) (oi := { dst := some 159, op := Op.pick (Operand.tmp 136) (Operand.const (Value.bool true)) (Operand.tmp 158), type := 4, pos := "ref.go:305", after := #[{ on := 1, ground := Ground.data }, { on := 23, ground := Ground.data }], guard := none }) (v := ?_) rfl (by kernel_rfl) (by kernel_rfl) (by kernel_rfl) (fun _ _ _ h => h) (Or.inl ⟨by rfl, ?rdy24⟩) (by assumption) ?_
                  case rdy24 => (intro w_ hSw; (try dsimp only at hSw); go_simp; try with_reducible rfl)
                  simp only [Act.put, List.setIfInBounds_toArray, List.set_cons_zero, List.set_cons_succ]
                  refine wpAnyH_take (i := 25) (oi := { dst := some 13, op := Op.assign (Operand.tmp 159), type := 4, pos := "ref.go:305", after := #[{ on := 24, ground := Ground.data }, { on := 22, ground := Ground.chain }, { on := 0, ground := Ground.phase }, { on := 1, ground := Ground.phase }, { on := 2, ground := Ground.phase }, { on := 3, ground := Ground.phase }, { on := 4, ground := Ground.phase }, { on := 5, ground := Ground.phase }, { on := 6, ground := Ground.phase }, { on := 7, ground := Ground.phase }, { on := 8, ground := Ground.phase }, { on := 9, ground := Ground.phase }, { on := 10, ground := Ground.phase }, { on := 11, ground := Ground.phase }, { on := 12, ground := Ground.phase }, { on := 13, ground := Ground.phase }, { on := 14, ground := Ground.phase }, { on := 15, ground := Ground.phase }, { on := 16, ground := Ground.phase }, { on := 17, ground := Ground.phase }, { on := 18, ground := Ground.phase }, { on := 19, ground := Ground.phase }, { on := 20, ground := Ground.phase }, { on := 21, ground := Ground.phase }, { on := 22, ground := Ground.phase }, { on := 23, ground := Ground.phase }, { on := 24, ground := Ground.phase }], guard := none }) (v := ?_) rfl (by kernel_rfl) (by kernel_rfl) (by kernel_rfl) (fun _ _ _ h => h) (Or.inl ⟨by rfl, ?rdy25⟩) (by assumption) ?_
                  case rdy25 => (intro w_ hSw; (try dsimp only at hSw); go_simp; try with_reducible rfl)
                  simp only [Act.put, List.setIfInBounds_toArray, List.set_cons_zero, List.set_cons_succ]
                  refine wpAnyH_done (by kernel_rfl) ?_ _
                  go_wp2
                  go_roundw
                  case rel =>
                    first
                      | exact ⟨_, _, _, _, _, _, _, _, rfl, rfl, HK9⟩
                      | ((repeat apply Exists.intro); exact ⟨⟨_, _, _, _, _, _, _, _, rfl, rfl, HK9⟩, rfl⟩)
                  case measure => (have h1 := (unhide HK9).k.atOf; have h2 := (unhide HK).k.atOf; rw [h1, h2]; omega)
          · have hskE2 : sk = E := by omega
            have hkd : kidsP (valueP formD f) n' (leftB b s2 E) = .yes dn := by have h1 := unhide HK; rw [hskE2] at h1; exact h1.done
            have hv3 := unhide Hv2
            rw [hkd] at hv3
            simp only [] at hv3
            rw [← (unhide HK).fl] at hv3
            have Hv3 := hide hv3
            have Hvl := hide ((unhide HK).value (by have := (unhide HK).cnt; omega))
            have Hcnt : Hid (dn.length ≤ 65536) := by have := (unhide HK).cnt; show _ ≤ _; omega
            obtain ⟨i0, _⟩ := (unhide HK).q.cell 0 (.int .i64 (c' : Int)) rfl
            obtain ⟨i1, _⟩ := (unhide HK).q.cell 1 (.int .i64 (t' : Int)) rfl
            obtain ⟨j0, j1, j2, j3⟩ := (unhide HK).q.rd.c
            have g1 : decide ((sk : Int) < (E : Int)) = false := by simp; omega
            have g1n : decide (sk < E) = false := by simp; omega
            have HKd := hide (unhide HK).drew
            have HSK : Hid (sk = E) := hskE2
            clear hskE2 hkd hv3 Hv2 hlt hskE
            obtain ⟨w9, hw9⟩ : ∃ w9, (wr.setCell ⟨K, 1, none⟩ (.int .i64 (E : Int))).drew = w9 := ⟨_, rfl⟩
            have HQ9 : Hid (QAt w w9 K A V sb cb b E en #[.int .i64 (c' : Int), .int .i64 (t' : Int), .bool true, .slice none 0 0, .slice sx dn.length cx]) := by
              show QAt _ _ _ _ _ _ _ _ _ _ _
              rw [← hw9]
              exact ((unhide HK).q.read (grown_setCell (World.grownBy.refl _ _) ⟨K, 1, none⟩ _ rfl) ((unhide HK).q.rd.set E hEe)).drew
            have HVal : Hid (∀ cs, VAt (f + 1) (fun k => w.heap.size ≤ k) (w9.setRow A cs) (dcells (c' : Int) (t' : Int) true (.slice none 0 0) (.slice sx dn.length cx)) (.mk (c' : Int) (t' : Int) true [] (dn.map (·.1)))) := fun cs => by
              have h1 := (unhide Hvl).kept (grown_setCell (World.grownBy.refl wr (some K)) ⟨K, 1, none⟩ (.int .i64 (E : Int)) rfl) (fun g hg hs => by cases hg; have := (unhide HK).q.ka; have := hs.1; omega)
              have h2 := h1.below (Below.refl _ _).drew
              rw [hw9] at h2
              have h3 := h2.kept (grown_setRow w9 A cs) (fun g hg hs => by cases hg; exact hs.2.2 rfl)
              exact h3.mono fun g hg _ => by have := hg.1; have := unhide HA; omega
            have Hcs5 : Hid ((#[.int .i64 (c' : Int), .int .i64 (t' : Int), .bool true, .slice none 0 0, .slice sx dn.length cx] : Array Value).all (·.oneCell') = true) := by show _ = true; simp [Value.oneCell']
            have HVd9 := hide (unhide HQ9).val
            have HAd9 := hide (unhide HQ9).res
            by_cases hff : (fl && decide (c' = 0) && decide (t' = 17)) = true
            case pos =>
              have Hv4 : Hid (valueP formD (f + 1) (leftB b s en) = .no 25) := by show _ = _; rw [unhide Hv3, if_pos hff]
              simp only [Bool.and_eq_true, decide_eq_true_eq] at hff
              obtain ⟨⟨rfl, rfl⟩, rfl⟩ := hff
              have HQe := hide ((unhide HKd).q)
              obtain ⟨e1, e2, e3⟩ := (unhide HQe).fin dzero
              have E1 := hide e1
              have E2 := hide e2
              have E3 := hide e3
              have HAd : Hid ((wr.drew).heap[A]? = some (.cells dzero 32 (0, 0))) := (unhide HQe).res
              have HTT : Hid (∀ w', ValueTold (f + 1) w' w.heap.size b s en dzero.toList 25 s2) := fun w' => by unfold ValueTold; rw [unhide Hv4]; exact ⟨rfl, rfl⟩
              clear e1 e2 e3 HQe
              clear Hv3 Hv4 HK HQ9 HVal HVd9 HAd9 Hvl hw9
              go_wp2
              go_region_held3 (fun w' => w'.cell? ⟨K2, 1, none⟩ = some (.int .i64 (sk : Int)) ∧ w'.cell? ⟨K2, 2, none⟩ = some (.int .i64 (E : Int))) (go_keep) (fail)
              go_wp2_with (first | (refine wpList_store_row rfl 32 _ _ rfl A dzero rfl rfl 32 _ (unhide HAd) hsz5 rfl (unhide H5) ?_))
              exact bodyPost_ret (results_row_tmp Tryd.results20 _ _ A 32 _ (0, 0) _ rfl (unhide E3) Tryd.underlying32 rfl hsz5 (.int .i64 25) rfl) rfl ⟨dzero.toList, 25, s2, rfl, unhide HTT _, by omega, unhide E1, unhide E2⟩
            have Hv4 : Hid (valueP formD (f + 1) (leftB b s en) = .yes (.mk (c' : Int) (t' : Int) true [] (dn.map (·.1)), leftB b E en)) := by show _ = _; rw [unhide Hv3, if_neg hff]
            clear Hv3
            rcases (by cases fl <;> simp at hff ⊢ <;> omega : fl = false ∨ (fl = true ∧ c' ≠ 0) ∨ (fl = true ∧ c' = 0 ∧ t' ≠ 17)) with rfl | ⟨rfl, hc0⟩ | ⟨rfl, rfl, ht17⟩
            · clear hff
              go_wp2
              go_region_held3 (fun w' => w'.cell? ⟨K2, 1, none⟩ = some (.int .i64 (sk : Int)) ∧ w'.cell? ⟨K2, 2, none⟩ = some (.int .i64 (E : Int))) (go_keep) (fail)
              go_wp2_with (first
                | (refine wpList_load_row rfl 32 _ rfl V rfl 32 _ (0, 0) _ (unhide HVd9) Tryd.underlying32 rfl hsz5 ?_)
                | (refine wpList_store_row rfl 32 _ _ rfl A #[.int .i64 (c' : Int), .int .i64 (t' : Int), .bool true, .slice none 0 0, .slice sx dn.length cx] rfl rfl 32 _ (unhide HAd9) hsz5 rfl (unhide Hcs5) ?_))
              obtain ⟨e1, e2, e3⟩ := (unhide HQ9).fin #[.int .i64 (c' : Int), .int .i64 (t' : Int), .bool true, .slice none 0 0, .slice sx dn.length cx]
              refine bodyPost_ret (results_row_tmp Tryd.results20 _ _ A 32 _ (0, 0) _ rfl e3 Tryd.underlying32 rfl hsz5 (.int .i64 0) rfl) rfl ⟨_, 0, E, rfl, ?_, by omega, e1, e2⟩
              unfold ValueTold
              rw [unhide Hv4]
              exact ⟨unhide HVal _, rfl, rfl, by omega⟩
            · have l0 : ((c' : Int) == 0) = false := by simp; omega
              clear hff
              go_wp2
              go_region_held3 (fun w' => w'.cell? ⟨K2, 1, none⟩ = some (.int .i64 (sk : Int)) ∧ w'.cell? ⟨K2, 2, none⟩ = some (.int .i64 (E : Int))) (go_keep) (fail)
              go_wp2_with (first
                | (refine wpList_load_row rfl 32 _ rfl V rfl 32 _ (0, 0) _ (unhide HVd9) Tryd.underlying32 rfl hsz5 ?_)
                | (refine wpList_store_row rfl 32 _ _ rfl A #[.int .i64 (c' : Int), .int .i64 (t' : Int), .bool true, .slice none 0 0, .slice sx dn.length cx] rfl rfl 32 _ (unhide HAd9) hsz5 rfl (unhide Hcs5) ?_))
              obtain ⟨e1, e2, e3⟩ := (unhide HQ9).fin #[.int .i64 (c' : Int), .int .i64 (t' : Int), .bool true, .slice none 0 0, .slice sx dn.length cx]
              refine bodyPost_ret (results_row_tmp Tryd.results20 _ _ A 32 _ (0, 0) _ rfl e3 Tryd.underlying32 rfl hsz5 (.int .i64 0) rfl) rfl ⟨_, 0, E, rfl, ?_, by omega, e1, e2⟩
              unfold ValueTold
              rw [unhide Hv4]
              exact ⟨unhide HVal _, rfl, rfl, by omega⟩
            · have l1 : ((t' : Int) == 17) = false := by simp; omega
              clear hff
              go_wp2
              go_region_held3 (fun w' => w'.cell? ⟨K2, 1, none⟩ = some (.int .i64 (sk : Int)) ∧ w'.cell? ⟨K2, 2, none⟩ = some (.int .i64 (E : Int))) (go_keep) (fail)
              go_wp2_with (first
                | (refine wpList_load_row rfl 32 _ rfl V rfl 32 _ (0, 0) _ (unhide HVd9) Tryd.underlying32 rfl hsz5 ?_)
                | (refine wpList_store_row rfl 32 _ _ rfl A #[.int .i64 ((0 : Nat) : Int), .int .i64 (t' : Int), .bool true, .slice none 0 0, .slice sx dn.length cx] rfl rfl 32 _ (unhide HAd9) hsz5 rfl (unhide Hcs5) ?_))
              obtain ⟨e1, e2, e3⟩ := (unhide HQ9).fin #[.int .i64 ((0 : Nat) : Int), .int .i64 (t' : Int), .bool true, .slice none 0 0, .slice sx dn.length cx]
              refine bodyPost_ret (results_row_tmp Tryd.results20 _ _ A 32 _ (0, 0) _ rfl e3 Tryd.underlying32 rfl hsz5 (.int .i64 0) rfl) rfl ⟨_, 0, E, rfl, ?_, by omega, e1, e2⟩
              unfold ValueTold
              rw [unhide Hv4]
              exact ⟨unhide HVal _, rfl, rfl, by omega⟩
end Go.Proofs.YtngkidlgcdofhaaDoor
