/-
  The walk of the landed Oid.
-/
import Derived.Test.YtcofnockikninabGreatDoorPD
import Derived.Test.YtcofnockikninabGreatDoorNh
import Derived.Test.YtcofnockikninabGreatDoorN1
namespace Go.Proofs.YtcofnockikninabGreatDoor
open Go.RowKit
open Go.Lib (decDigits)
theorem nDigits_le : ∀ (k u : Nat), u < 10 ^ (k + 1) → Lib.nDigits u ≤ k + 1
  | 0, u, h => by rw [Lib.nDigits_small (by omega)]; omega
  | k + 1, u, h => by
    by_cases h10 : u < 10
    · rw [Lib.nDigits_small h10]; omega
    · rw [Lib.nDigits_big h10]
      have := nDigits_le k (u / 10) (by rw [Nat.pow_succ] at h; omega)
      omega
theorem dec_len {u : Nat} (h : u < 1099511627776) : (decDigits u).length ≤ 13 := by
  rw [Lib.decDigits_length]
  exact nDigits_le 12 u (by omega)
theorem restT_len : ∀ (gs : List Nat), (∀ g ∈ gs, g < 1099511627776) → (restT gs).length ≤ 14 * gs.length
  | [], _ => by simp [restT]
  | g :: r, h => by
    have ih := restT_len r (fun x hx => h x (List.mem_cons_of_mem _ hx))
    have := dec_len (h g List.mem_cons_self)
    unfold restT at *
    rw [List.flatMap_cons, List.length_append, List.length_cons, List.length_cons]
    omega
namespace N
open K
theorem under_ints : Tryz.prog.underlying 53 = some (.slice (Tryz.prog.elem 53)) := by kernel_rfl
theorem elem_ints : Tryz.prog.elem 53 = 3 := by kernel_rfl
theorem size3 (w : World) : (Go.sizeOf 3).run Tryz.prog w = .ok 1 w := by
  obtain ⟨_, ⟨i, hi, _, hsz, _⟩, _, _⟩ := Eints
  simp [Go.sizeOf, typeInfo, hi, hsz]
theorem slice_ints (sp : Option Addr) (K c f : Nat) (hf : f ≤ K) (w : World) : (Instr.sliceAt 53 (.slice sp K c) (some (.int .i64 (f : Int))) none none).run Tryz.prog w = .ok (.slice (cutAt sp c f) (K - f) (c - f)) w := by
  rw [run_sliceAt_slice w 53 _ _ _ _ under_ints, run_slice_l w 53 sp K c under_ints .i64 (f : Int) (by omega) (by omega), elem_ints, size3, Result.andThen_ok]
  simp only [sliced, Int.toNat_natCast, Nat.mul_one]
  rfl
/-- The rest of a row. -/
theorem vals_drop {w : World} {sp : Option Addr} {c : Nat} {l : List Value} (h : ValsAt w (.slice sp l.length c) l) (f : Nat) (hf : f ≤ l.length) : ValsAt w (.slice (cutAt sp c f) (l.length - f) (c - f)) (l.drop f) := by
  obtain ⟨sp', c', ex, h1, h2, h3⟩ := h
  simp only [Value.slice.injEq] at ex
  obtain ⟨rfl, _, rfl⟩ := ex
  refine ⟨_, _, by rw [List.length_drop], by rw [List.length_drop]; omega, fun h => ?_, fun hne => ?_⟩
  · unfold cutAt at h
    split at h
    · omega
    · have : sp = none := by cases sp with
        | none => rfl
        | some a => simp at h
      rw [h2 this]; omega
  · have hpos : f < l.length := by
      rcases Nat.lt_or_ge f l.length with h0 | h0
      · exact h0
      · exact absurd (List.drop_eq_nil_of_le h0) hne
    obtain ⟨bb, o, rfl, hr⟩ := h3 (by intro e0; rw [e0] at hpos; simp at hpos)
    unfold cutAt
    rw [if_neg (by omega)]
    refine ⟨bb, o + f, by simp [Addr.add_mid], fun j v hv => ?_⟩
    rw [List.getElem?_drop] at hv
    have := hr (f + j) v hv
    rwa [← Nat.add_assoc] at this
theorem oidT_no {v : DV} (h : ¬ (v.cls = 0 ∧ v.tag = 6 ∧ rightV v = true)) : oidT v = none := by unfold oidT; rw [if_neg h]
set_option maxRecDepth 100000 in
set_option maxHeartbeats 8000000 in
theorem oid_other (w : World) (S : Nat → Prop) (cs : List Value) (v : DV) (hRd : Rdy w) (hv : ValAt S w cs v) (hw : weight v ≤ 1000000) (hn : ¬ (v.cls = 0 ∧ v.tag = 6)) :
    Calls Tryz.prog 9 #[.agg cs.toArray] w fun e w' => e = .returned (.tuple #[.string (st ((oidT v).getD [])), .bool (oidT v).isSome]) ∧ Below w.heap.size w w' := by
  have HE : Hid (oidT v = none) := oidT_no (fun h => hn ⟨h.1, h.2.1⟩)
  obtain ⟨s1, c1, s2, c2, rfl⟩ := hv.form
  obtain ⟨kc, hkc⟩ : ∃ kc, v.cls = kc := ⟨_, rfl⟩
  obtain ⟨kt, hkt⟩ : ∃ kt, v.tag = kt := ⟨_, rfl⟩
  obtain ⟨km, hkm⟩ : ∃ km, v.made = km := ⟨_, rfl⟩
  obtain ⟨kl, hkl⟩ : ∃ kl, v.bytes.length = kl := ⟨_, rfl⟩
  obtain ⟨kk, hkk⟩ : ∃ kk, v.kids.length = kk := ⟨_, rfl⟩
  rw [hkc, hkt, hkm, hkl, hkk] at hv ⊢
  rw [hkc, hkt] at hn
  clear hkc hkt hkm hkl hkk
  have hA := Blk.new (Below.refl w.heap.size w) #[.int .i64 kc, .int .i64 kt, .bool km, .slice s1 kl c1, .slice s2 kk c2] 36
  obtain ⟨w1, hw1⟩ : ∃ w1, w.alloc (.cells #[.int .i64 kc, .int .i64 kt, .bool km, .slice s1 kl c1, .slice s2 kk c2] 36) = w1 := ⟨_, rfl⟩
  obtain ⟨X, eX⟩ : ∃ X, w.heap.size = X := ⟨_, rfl⟩
  rw [hw1, eX] at hA
  obtain ⟨k0, k1, k2, k3, k4⟩ := five_at hA
  have HA := hide hA
  have hT := hRd.tabs
  have HT := hide hT
  have HV := hide hv
  have Hw := hide hw
  have HI : Hid (∀ (wr : World) (g : Int) (A B : Bool), (kc == 0) = A → (kt == g) = B → Calls Tryz.prog 20 #[.agg #[.int .i64 kc, .int .i64 kt, .bool km, .slice s1 kl c1, .slice s2 kk c2], .int .i64 g] wr fun e w' => e = .returned (.bool (A && B)) ∧ Below wr.heap.size wr w') := fun wr g A B h1 h2 => isuni_c wr kc kt km s1 s2 kl kk c1 c2 g A B h1 h2
  have HRt : Hid (∀ wr : World, Below w.heap.size w wr → Calls Tryz.prog 21 #[.agg #[.int .i64 kc, .int .i64 kt, .bool km, .slice s1 kl c1, .slice s2 kk c2]] wr fun e w' => e = .returned (.bool (rightV v)) ∧ Below wr.heap.size wr w') := fun wr hb => isright_c wr S _ v (hT.below hb) (hv.below hb) hw
  unfold dcells
  obtain ⟨A, hA0⟩ : ∃ A, (kc == 0) = A := ⟨_, rfl⟩
  obtain ⟨B, hB0⟩ : ∃ B, (kt == 6) = B := ⟨_, rfl⟩
  have h6 : (A && B) = false := by
    cases A <;> cases B <;> simp_all
  have HI1 := hide (unhide HI w1 6 A B hA0 hB0)
  rw [h6] at HI1
  clear hA hv hw hT hA0 hB0 h6 hn
  go_enter Tryz.func9, Tryz.ntmps9
  go_wp2_with fail
  refine (unhide HI1).mono ?_
  rintro e w2 ⟨rfl, hb⟩
  have HA := hide ((unhide HA).call hb)
  clear hb k0 k1 k2 k3 k4
  obtain ⟨k0, k1, k2, k3, k4⟩ := five_at (unhide HA)
  go_wp2
  go_ret2
  exact ⟨by rw [unhide HE]; rfl, (unhide HA).b⟩
set_option maxRecDepth 100000 in
set_option maxHeartbeats 8000000 in
theorem oid_bad (w : World) (S : Nat → Prop) (cs : List Value) (v : DV) (hRd : Rdy w) (hv : ValAt S w cs v) (hw : weight v ≤ 1000000) (hc : v.cls = 0) (ht : v.tag = 6) (hr : rightV v = false) :
    Calls Tryz.prog 9 #[.agg cs.toArray] w fun e w' => e = .returned (.tuple #[.string (st ((oidT v).getD [])), .bool (oidT v).isSome]) ∧ Below w.heap.size w w' := by
  have HE : Hid (oidT v = none) := oidT_no (fun h => by rw [hr] at h; exact absurd h.2.2 (by simp))
  obtain ⟨s1, c1, s2, c2, rfl⟩ := hv.form
  obtain ⟨kc, hkc⟩ : ∃ kc, v.cls = kc := ⟨_, rfl⟩
  obtain ⟨kt, hkt⟩ : ∃ kt, v.tag = kt := ⟨_, rfl⟩
  obtain ⟨km, hkm⟩ : ∃ km, v.made = km := ⟨_, rfl⟩
  obtain ⟨kl, hkl⟩ : ∃ kl, v.bytes.length = kl := ⟨_, rfl⟩
  obtain ⟨kk, hkk⟩ : ∃ kk, v.kids.length = kk := ⟨_, rfl⟩
  rw [hkc, hkt, hkm, hkl, hkk] at hv ⊢
  obtain rfl : kc = 0 := hkc.symm.trans hc
  obtain rfl : kt = 6 := hkt.symm.trans ht
  have Hr := hide hr
  clear hkc hkt hkm hkl hkk hc ht hr
  have hA := Blk.new (Below.refl w.heap.size w) #[.int .i64 0, .int .i64 6, .bool km, .slice s1 kl c1, .slice s2 kk c2] 36
  obtain ⟨w1, hw1⟩ : ∃ w1, w.alloc (.cells #[.int .i64 0, .int .i64 6, .bool km, .slice s1 kl c1, .slice s2 kk c2] 36) = w1 := ⟨_, rfl⟩
  obtain ⟨X, eX⟩ : ∃ X, w.heap.size = X := ⟨_, rfl⟩
  rw [hw1, eX] at hA
  obtain ⟨k0, k1, k2, k3, k4⟩ := five_at hA
  have HA := hide hA
  have hT := hRd.tabs
  have HT := hide hT
  have HV := hide hv
  have Hw := hide hw
  have HI : Hid (∀ (wr : World) (g : Int) (A B : Bool), ((0 : Int) == 0) = A → ((6 : Int) == g) = B → Calls Tryz.prog 20 #[.agg #[.int .i64 0, .int .i64 6, .bool km, .slice s1 kl c1, .slice s2 kk c2], .int .i64 g] wr fun e w' => e = .returned (.bool (A && B)) ∧ Below wr.heap.size wr w') := fun wr g A B h1 h2 => isuni_c wr 0 6 km s1 s2 kl kk c1 c2 g A B h1 h2
  have HRt : Hid (∀ wr : World, Below w.heap.size w wr → Calls Tryz.prog 21 #[.agg #[.int .i64 0, .int .i64 6, .bool km, .slice s1 kl c1, .slice s2 kk c2]] wr fun e w' => e = .returned (.bool (rightV v)) ∧ Below wr.heap.size wr w') := fun wr hb => isright_c wr S _ v (hT.below hb) (hv.below hb) hw
  unfold dcells
  have HRt2 : Hid (∀ wr : World, Below w.heap.size w wr → Calls Tryz.prog 21 #[.agg #[.int .i64 0, .int .i64 6, .bool km, .slice s1 kl c1, .slice s2 kk c2]] wr fun e w' => e = .returned (.bool false) ∧ Below wr.heap.size wr w') := fun wr hb => by
    have := unhide HRt wr hb
    rw [unhide Hr] at this
    exact this
  clear HRt
  have HIu : Hid (Calls Tryz.prog 20 #[.agg #[.int .i64 0, .int .i64 6, .bool km, .slice s1 kl c1, .slice s2 kk c2], .int .i64 6] w1 fun e w' => e = .returned (.bool true) ∧ Below w1.heap.size w1 w') := unhide HI w1 6 true true rfl rfl
  clear hA hv hw hT
  go_enter Tryz.func9, Tryz.ntmps9
  go_wp2_with fail
  refine (unhide HIu).mono ?_
  rintro e w2 ⟨rfl, hb⟩
  have HA := hide ((unhide HA).call hb)
  clear hb k0 k1 k2 k3 k4
  obtain ⟨k0, k1, k2, k3, k4⟩ := five_at (unhide HA)
  go_wp2_with fail
  refine (unhide HRt2 w2 (unhide HA).b).mono ?_
  rintro e w4 ⟨rfl, hb⟩
  have HA := hide ((unhide HA).call hb)
  clear hb k0 k1 k2 k3 k4
  obtain ⟨k0, k1, k2, k3, k4⟩ := five_at (unhide HA)
  go_wp2
  go_ret2
  exact ⟨by rw [unhide HE]; rfl, (unhide HA).b⟩
set_option maxRecDepth 100000 in
set_option maxHeartbeats 8000000 in
theorem oid_none (w : World) (S : Nat → Prop) (cs : List Value) (v : DV) (hRd : Rdy w) (hv : ValAt S w cs v) (hw : weight v ≤ 1000000) (hc : v.cls = 0) (ht : v.tag = 6) (hr : rightV v = true) (hg : oidG v.bytes = none) :
    Calls Tryz.prog 9 #[.agg cs.toArray] w fun e w' => e = .returned (.tuple #[.string (st ((oidT v).getD [])), .bool (oidT v).isSome]) ∧ Below w.heap.size w w' := by
  obtain ⟨_, hoid⟩ := right_oid hr hc ht
  have HE : Hid (oidT v = (oidG v.bytes).map oidTextG) := by show _ = _; unfold oidT; rw [if_pos ⟨hc, ht, hr⟩]
  have hlb : v.bytes.length ≤ 1000000 := by obtain ⟨_, _, _, b, _⟩ := v; simp only [weight] at hw; simp only [DV.bytes]; omega
  obtain ⟨b, hb0⟩ : ∃ b, v.bytes = b := ⟨_, rfl⟩
  rw [hb0] at HE hoid hlb hg
  obtain ⟨s1, c1, s2, c2, rfl⟩ := hv.form
  obtain ⟨kc, hkc⟩ : ∃ kc, v.cls = kc := ⟨_, rfl⟩
  obtain ⟨kt, hkt⟩ : ∃ kt, v.tag = kt := ⟨_, rfl⟩
  obtain ⟨km, hkm⟩ : ∃ km, v.made = km := ⟨_, rfl⟩
  obtain ⟨kl, hkl⟩ : ∃ kl, v.bytes.length = kl := ⟨_, rfl⟩
  obtain ⟨kk, hkk⟩ : ∃ kk, v.kids.length = kk := ⟨_, rfl⟩
  rw [hkc, hkt, hkm, hkl, hkk] at hv ⊢
  obtain rfl : kc = 0 := hkc.symm.trans hc
  obtain rfl : kt = 6 := hkt.symm.trans ht
  have Hr := hide hr
  have HBy : Hid (∀ wr : World, Below w.heap.size w wr → BytesAt wr (.slice s1 kl c1) b) := fun wr hb => by
    obtain ⟨n, h⟩ := hv.below hb
    cases n with
    | zero => exact h.elim
    | succ n =>
      obtain ⟨xb, sk, ck, e, h1, _⟩ := h
      simp only [dcells, List.cons.injEq] at e
      rw [e.2.2.2.1, ← hb0]
      exact h1
  clear hkc hkt hkm hkk hc ht hr
  have hA := Blk.new (Below.refl w.heap.size w) #[.int .i64 0, .int .i64 6, .bool km, .slice s1 kl c1, .slice s2 kk c2] 36
  obtain ⟨w1, hw1⟩ : ∃ w1, w.alloc (.cells #[.int .i64 0, .int .i64 6, .bool km, .slice s1 kl c1, .slice s2 kk c2] 36) = w1 := ⟨_, rfl⟩
  obtain ⟨X, eX⟩ : ∃ X, w.heap.size = X := ⟨_, rfl⟩
  rw [hw1, eX] at hA
  obtain ⟨k0, k1, k2, k3, k4⟩ := five_at hA
  have HA := hide hA
  have hT := hRd.tabs
  have HT := hide hT
  have HV := hide hv
  have Hw := hide hw
  have HI : Hid (∀ (wr : World) (g : Int) (A B : Bool), ((0 : Int) == 0) = A → ((6 : Int) == g) = B → Calls Tryz.prog 20 #[.agg #[.int .i64 0, .int .i64 6, .bool km, .slice s1 kl c1, .slice s2 kk c2], .int .i64 g] wr fun e w' => e = .returned (.bool (A && B)) ∧ Below wr.heap.size wr w') := fun wr g A B h1 h2 => isuni_c wr 0 6 km s1 s2 kl kk c1 c2 g A B h1 h2
  have HRt : Hid (∀ wr : World, Below w.heap.size w wr → Calls Tryz.prog 21 #[.agg #[.int .i64 0, .int .i64 6, .bool km, .slice s1 kl c1, .slice s2 kk c2]] wr fun e w' => e = .returned (.bool (rightV v)) ∧ Below wr.heap.size wr w') := fun wr hb => isright_c wr S _ v (hT.below hb) (hv.below hb) hw
  unfold dcells
  have HRt2 : Hid (∀ wr : World, Below w.heap.size w wr → Calls Tryz.prog 21 #[.agg #[.int .i64 0, .int .i64 6, .bool km, .slice s1 kl c1, .slice s2 kk c2]] wr fun e w' => e = .returned (.bool true) ∧ Below wr.heap.size wr w') := fun wr hb => by
    have := unhide HRt wr hb
    rw [unhide Hr] at this
    exact this
  clear HRt
  have HIu : Hid (Calls Tryz.prog 20 #[.agg #[.int .i64 0, .int .i64 6, .bool km, .slice s1 kl c1, .slice s2 kk c2], .int .i64 6] w1 fun e w' => e = .returned (.bool true) ∧ Below w1.heap.size w1 w') := unhide HI w1 6 true true rfl rfl
  have HGr : Hid (∀ wr : World, Below w.heap.size w wr → Calls Tryz.prog 22 #[.slice s1 kl c1] wr fun e w' => ∃ (v : Value) (ok : Bool), e = .returned (.tuple #[v, .bool ok]) ∧ ((∃ gs, oidG b = some gs ∧ gs ≠ [] ∧ ok = true ∧ RowN wr w' v gs) ∨ (oidG b = none ∧ ok = false ∧ v = .slice none 0 0)) ∧ Below wr.heap.size wr w') := fun wr hb => groupsof_c wr _ b (unhide HBy wr hb) hoid hlb
  have HRd : Hid (∀ wr : World, Below w.heap.size w wr → Rdy wr) := fun wr hb => hRd.below hb
  clear hA hv hw hT hoid hlb hb0 hkl hRd HI HT HV Hw HBy
  have HE2 : Hid (oidT v = none) := by show _ = _; rw [unhide HE, hg]; rfl
  have HG := hide hg
  clear hg HE
  go_enter Tryz.func9, Tryz.ntmps9
  go_wp2_with fail
  refine (unhide HIu).mono ?_
  rintro e w2 ⟨rfl, hb⟩
  have HA := hide ((unhide HA).call hb)
  clear hb k0 k1 k2 k3 k4
  obtain ⟨k0, k1, k2, k3, k4⟩ := five_at (unhide HA)
  go_wp2_with fail
  refine (unhide HRt2 w2 (unhide HA).b).mono ?_
  rintro e w4 ⟨rfl, hb⟩
  have HA := hide ((unhide HA).call hb)
  clear hb k0 k1 k2 k3 k4
  obtain ⟨k0, k1, k2, k3, k4⟩ := five_at (unhide HA)
  go_wp2_with fail
  refine (unhide HGr w4 (unhide HA).b).mono ?_
  rintro e w5 ⟨vv, ok, rfl, hor, hb⟩
  rcases hor with ⟨gs, h1, _⟩ | ⟨_, rfl, rfl⟩
  · rw [unhide HG] at h1; cases h1
  have HA := hide ((unhide HA).call hb)
  clear hb k0 k1 k2 k3 k4
  obtain ⟨k0, k1, k2, k3, k4⟩ := five_at (unhide HA)
  go_wp2
  go_ret2
  exact ⟨by rw [unhide HE2]; rfl, (unhide HA).b⟩
set_option maxRecDepth 100000 in
set_option maxHeartbeats 8000000 in
theorem oid_some (w : World) (S : Nat → Prop) (cs : List Value) (v : DV) (hRd : Rdy w) (hv : ValAt S w cs v) (hw : weight v ≤ 1000000) (hc : v.cls = 0) (ht : v.tag = 6) (hr : rightV v = true) (g : Nat) (r : List Nat) (hg : oidG v.bytes = some (g :: r)) :
    Calls Tryz.prog 9 #[.agg cs.toArray] w fun e w' => e = .returned (.tuple #[.string (st ((oidT v).getD [])), .bool (oidT v).isSome]) ∧ Below w.heap.size w w' := by
  obtain ⟨_, hoid⟩ := right_oid hr hc ht
  have HE : Hid (oidT v = (oidG v.bytes).map oidTextG) := by show _ = _; unfold oidT; rw [if_pos ⟨hc, ht, hr⟩]
  have hlb : v.bytes.length ≤ 1000000 := by obtain ⟨_, _, _, b, _⟩ := v; simp only [weight] at hw; simp only [DV.bytes]; omega
  obtain ⟨b, hb0⟩ : ∃ b, v.bytes = b := ⟨_, rfl⟩
  rw [hb0] at HE hoid hlb hg
  obtain ⟨s1, c1, s2, c2, rfl⟩ := hv.form
  obtain ⟨kc, hkc⟩ : ∃ kc, v.cls = kc := ⟨_, rfl⟩
  obtain ⟨kt, hkt⟩ : ∃ kt, v.tag = kt := ⟨_, rfl⟩
  obtain ⟨km, hkm⟩ : ∃ km, v.made = km := ⟨_, rfl⟩
  obtain ⟨kl, hkl⟩ : ∃ kl, v.bytes.length = kl := ⟨_, rfl⟩
  obtain ⟨kk, hkk⟩ : ∃ kk, v.kids.length = kk := ⟨_, rfl⟩
  rw [hkc, hkt, hkm, hkl, hkk] at hv ⊢
  obtain rfl : kc = 0 := hkc.symm.trans hc
  obtain rfl : kt = 6 := hkt.symm.trans ht
  have Hr := hide hr
  have HBy : Hid (∀ wr : World, Below w.heap.size w wr → BytesAt wr (.slice s1 kl c1) b) := fun wr hb => by
    obtain ⟨n, h⟩ := hv.below hb
    cases n with
    | zero => exact h.elim
    | succ n =>
      obtain ⟨xb, sk, ck, e, h1, _⟩ := h
      simp only [dcells, List.cons.injEq] at e
      rw [e.2.2.2.1, ← hb0]
      exact h1
  clear hkc hkt hkm hkk hc ht hr
  have hA := Blk.new (Below.refl w.heap.size w) #[.int .i64 0, .int .i64 6, .bool km, .slice s1 kl c1, .slice s2 kk c2] 36
  obtain ⟨w1, hw1⟩ : ∃ w1, w.alloc (.cells #[.int .i64 0, .int .i64 6, .bool km, .slice s1 kl c1, .slice s2 kk c2] 36) = w1 := ⟨_, rfl⟩
  obtain ⟨X, eX⟩ : ∃ X, w.heap.size = X := ⟨_, rfl⟩
  rw [hw1, eX] at hA
  obtain ⟨k0, k1, k2, k3, k4⟩ := five_at hA
  have HA := hide hA
  have hT := hRd.tabs
  have HT := hide hT
  have HV := hide hv
  have Hw := hide hw
  have HI : Hid (∀ (wr : World) (g : Int) (A B : Bool), ((0 : Int) == 0) = A → ((6 : Int) == g) = B → Calls Tryz.prog 20 #[.agg #[.int .i64 0, .int .i64 6, .bool km, .slice s1 kl c1, .slice s2 kk c2], .int .i64 g] wr fun e w' => e = .returned (.bool (A && B)) ∧ Below wr.heap.size wr w') := fun wr g A B h1 h2 => isuni_c wr 0 6 km s1 s2 kl kk c1 c2 g A B h1 h2
  have HRt : Hid (∀ wr : World, Below w.heap.size w wr → Calls Tryz.prog 21 #[.agg #[.int .i64 0, .int .i64 6, .bool km, .slice s1 kl c1, .slice s2 kk c2]] wr fun e w' => e = .returned (.bool (rightV v)) ∧ Below wr.heap.size wr w') := fun wr hb => isright_c wr S _ v (hT.below hb) (hv.below hb) hw
  unfold dcells
  have HRt2 : Hid (∀ wr : World, Below w.heap.size w wr → Calls Tryz.prog 21 #[.agg #[.int .i64 0, .int .i64 6, .bool km, .slice s1 kl c1, .slice s2 kk c2]] wr fun e w' => e = .returned (.bool true) ∧ Below wr.heap.size wr w') := fun wr hb => by
    have := unhide HRt wr hb
    rw [unhide Hr] at this
    exact this
  clear HRt
  have HIu : Hid (Calls Tryz.prog 20 #[.agg #[.int .i64 0, .int .i64 6, .bool km, .slice s1 kl c1, .slice s2 kk c2], .int .i64 6] w1 fun e w' => e = .returned (.bool true) ∧ Below w1.heap.size w1 w') := unhide HI w1 6 true true rfl rfl
  have HGr : Hid (∀ wr : World, Below w.heap.size w wr → Calls Tryz.prog 22 #[.slice s1 kl c1] wr fun e w' => ∃ (v : Value) (ok : Bool), e = .returned (.tuple #[v, .bool ok]) ∧ ((∃ gs, oidG b = some gs ∧ gs ≠ [] ∧ ok = true ∧ RowN wr w' v gs) ∨ (oidG b = none ∧ ok = false ∧ v = .slice none 0 0)) ∧ Below wr.heap.size wr w') := fun wr hb => groupsof_c wr _ b (unhide HBy wr hb) hoid hlb
  have HRd : Hid (∀ wr : World, Below w.heap.size w wr → Rdy wr) := fun wr hb => hRd.below hb
  clear hA hv hw hT hoid hlb hb0 hkl hRd HI HT HV Hw HBy
  have HE2 : Hid (oidT v = some (oidTextG (g :: r))) := by show _ = _; rw [unhide HE, hg]; rfl
  have hlt : (∀ x ∈ g :: r, x < 1099511627776) ∧ (g :: r).length ≤ 19 := by
    unfold oidG at hg
    cases hgf : gFold b with
    | none => rw [hgf] at hg; cases hg
    | some stt =>
      rw [hgf] at hg
      simp only at hg
      split at hg
      · rename_i h19
        injection hg with hg
        have := (gFold_lt b (gs := stt.1) (n := stt.2) hgf).2
        rw [hg] at this h19
        exact ⟨this, h19⟩
      · cases hg
  have HG := hide hg
  have Hlt := hide hlt.1
  have hg40 : g < 1099511627776 := hlt.1 g List.mem_cons_self
  have hr19 : r.length ≤ 18 := by have := hlt.2; simp at this; omega
  obtain ⟨a, ha⟩ : ∃ a, g / 40 = a := ⟨_, rfl⟩
  obtain ⟨F, hF⟩ : ∃ F, min a 2 = F := ⟨_, rfl⟩
  obtain ⟨D, hD⟩ : ∃ D, g - 40 * F = D := ⟨_, rfl⟩
  have ea : (g : Int) / 40 = (a : Int) := by omega
  have eF : min (a : Int) 2 = (F : Int) := by omega
  have eD : (g : Int) - (40 : Int) * (F : Int) = (D : Int) := by omega
  obtain ⟨tF, htF⟩ : ∃ t, decDigits F = t := ⟨_, rfl⟩
  obtain ⟨tD, htD⟩ : ∃ t, decDigits D = t := ⟨_, rfl⟩
  obtain ⟨t1, ht1⟩ : ∃ t : Bs, tF ++ [46] = t := ⟨_, rfl⟩
  obtain ⟨t2, ht2⟩ : ∃ t : Bs, t1 ++ tD = t := ⟨_, rfl⟩
  have ltF : tF.length ≤ 13 := by rw [← htF]; exact dec_len (by omega)
  have ltD : tD.length ≤ 13 := by rw [← htD]; exact dec_len (by omega)
  have lt1 : t1.length ≤ 14 := by rw [← ht1, List.length_append, List.length_singleton]; omega
  have lt2 : t2.length ≤ 27 := by rw [← ht2, List.length_append]; omega
  have cc1 := cat_str tF [46] t1 ht1 (by simp; omega)
  have cc2 := cat_str t1 tD t2 ht2 (by omega)
  have Htx : Hid (oidTextG (g :: r) = t2 ++ restT r) := by
    show _ = _
    show decDigits (min (g / 40) 2) ++ 46 :: decDigits (g - 40 * min (g / 40) 2) ++ restT r = t2 ++ restT r
    rw [ha, hF, hD, htF, htD, ← ht2, ← ht1]
    simp
  have HtF := hide htF
  have HtD := hide htD
  have hF2 : F ≤ 2 := by omega
  have hD2 : D < 1099511627776 := by omega
  clear hg HE hlt hF hD ha htF htD ht1 ht2
  go_enter Tryz.func9, Tryz.ntmps9
  go_wp2_with fail
  refine (unhide HIu).mono ?_
  rintro e w2 ⟨rfl, hb⟩
  have HA := hide ((unhide HA).call hb)
  clear hb k0 k1 k2 k3 k4
  obtain ⟨k0, k1, k2, k3, k4⟩ := five_at (unhide HA)
  go_wp2_with fail
  refine (unhide HRt2 w2 (unhide HA).b).mono ?_
  rintro e w4 ⟨rfl, hb⟩
  have HA := hide ((unhide HA).call hb)
  clear hb k0 k1 k2 k3 k4
  obtain ⟨k0, k1, k2, k3, k4⟩ := five_at (unhide HA)
  go_wp2_with fail
  refine (unhide HGr w4 (unhide HA).b).mono ?_
  rintro e w5 ⟨vv, ok, rfl, hor, hb⟩
  rcases hor with ⟨gs, h1, _, rfl, hrow⟩ | ⟨h1, _⟩
  case inr => rw [unhide HG] at h1; cases h1
  rw [unhide HG] at h1
  injection h1 with h1
  subst h1
  obtain ⟨sv, cv, rfl⟩ := hrow.form
  have HA := hide ((unhide HA).call hb)
  clear hb k0 k1 k2 k3 k4
  obtain ⟨k0, k1, k2, k3, k4⟩ := five_at (unhide HA)
  rw [List.length_cons]
  obtain ⟨M, hM⟩ : ∃ M, r.length = M := ⟨_, rfl⟩
  rw [hM]
  have hvals : ValsAt w5 (.slice sv (M + 1) cv) ((g :: r).map nv) := by
    have := OwnV.vals hrow.own
    rw [List.length_cons, hM] at this
    exact this
  have HVl := hide hvals
  obtain ⟨ba, oa, hsv, hcell0⟩ := ValsAt.int hvals 0 (by simp)
  subst hsv
  have hcell : w5.cell? ⟨ba, oa, none⟩ = some (.int .i64 (g : Int)) := by have := hcell0; rw [Nat.add_zero] at this; exact this
  have b0 : (0 : Int) < ((M + 1 : Nat) : Int) := by omega
  obtain ⟨y, hy⟩ : ∃ y, y = Value.slice (cutAt (some ⟨ba, oa, none⟩) cv 1) M (cv - 1) := ⟨_, rfl⟩
  have hsl : ∀ W, (Instr.sliceAt 53 (.slice (some ⟨ba, oa, none⟩) (M + 1) cv) (some (.int .i64 1)) none none).run Tryz.prog W = .ok y W := fun W => by
    rw [hy]
    exact slice_ints (some ⟨ba, oa, none⟩) (M + 1) cv 1 (by omega) W
  have HYv : Hid (ValsAt w5 y (r.map nv)) := by
    have h1 := vals_drop (l := (g :: r).map nv) (c := cv) (sp := some ⟨ba, oa, none⟩) (by have h2 := hvals; rw [← hM] at h2; simpa using h2) 1 (by simp)
    rw [hy]
    simp only [List.map_cons, List.drop_succ_cons, List.drop_zero, List.length_cons, List.length_map, Nat.add_sub_cancel, hM] at h1
    exact h1
  have HIs : Hid (∀ wr : World, Calls Tryz.prog 23 #[.int .i64 (F : Int)] wr fun e w' => e = .returned (.string (st tF)) ∧ w' = wr) := fun wr => by rw [← unhide HtF]; exact itoa_small_c wr F (by omega)
  have HIb : Hid (Calls Tryz.prog 23 #[.int .i64 (D : Int)] w5.drew fun e w' => e = .returned (.string (st tD)) ∧ Below w5.heap.size w5.drew w') := by
    show Calls _ _ _ _ _
    rw [← unhide HtD]
    exact itoa_c w5.drew (unhide HRd _ (unhide HA).b.drew) D (by omega)
  have HH : Hid (∀ w', Below w5.heap.size w5.drew w' → w'.cell? ⟨ba, oa, none⟩ = some (.int .i64 (g : Int))) := fun w' hb => by
    have h1 : Below w5.heap.size w5 w' := (Below.refl _ _).drew.trans hb
    rw [h1.cell (p := ⟨ba, oa, none⟩) (World.block_lt_of_cell? w5 _ hcell)]
    exact hcell
  have HM := hide hM
  obtain ⟨ys, yn, yc, hyf⟩ : ∃ ys yn yc, y = .slice ys yn yc := ⟨_, _, _, hy⟩
  have hyn : yn = M := by rw [hy] at hyf; simp only [Value.slice.injEq] at hyf; exact hyf.2.1.symm
  subst hyn
  subst hyf
  have uD : IntKind.i64.wrap (D : Int) = (D : Int) := IntWalk.i64_in _ (by omega)
  have uF : IntKind.i64.wrap ((40 : Int) * (F : Int)) = (40 : Int) * (F : Int) := IntWalk.i64_in _ (by omega)
  clear hvals hrow hcell0 hy hM HG HRt2 HIu HGr k0 k1 k2 k3 k4
  go_wp2
  go_region_held3 (fun w' => w'.cell? ⟨ba, oa, none⟩ = some (.int .i64 (g : Int))) (go_keep)
    ((first
      | (go_at_call_of 23 (Value.int IntKind.i64 (F : Int))
         refine (unhide HIs _).mono ?_
         rintro e w' ⟨rfl, hw⟩
         obtain rfl := hw)
      | (go_at_call_of 23 (Value.int IntKind.i64 (D : Int))
         refine (unhide HIb).mono ?_
         rintro e w6 ⟨rfl, hb6⟩
         have Hb6 := hide hb6
         have hcell := unhide HH w6 hb6
         clear hb6)))
  clear hcell cc1 cc2 uD uF HIs HIb HH
  have HB6 : Hid (Below w.heap.size w w6) := (unhide HA).b.trans ((((Below.refl w5.heap.size w5).drew).trans (unhide Hb6)).mono (unhide HA).b.size)
  have HY6 : Hid (∀ wr : World, Below w6.heap.size w6 wr → ∀ k, k < r.length → ∃ ba oa, ys = some ⟨ba, oa, none⟩ ∧ wr.cell? ⟨ba, oa + k, none⟩ = some (.int .i64 (r.getD k 0 : Int))) := fun wr hb k hk => by
    have h1 : Below w5.heap.size w5 w6 := (Below.refl _ _).drew.trans (unhide Hb6)
    exact ValsAt.int (((unhide HYv).below h1).below hb) k hk
  clear HYv Hb6 HVl
  go_wp2
  clear hsl
  go_loopw [7, 45] (fun tt ii wr => ∃ (k : Nat) (tx : Bs), k ≤ yn ∧ tt = .string (st tx) ∧ ii = .int .i64 (k : Int) ∧ Hid (tx = t2 ++ restT (r.take k)) ∧ Hid (Below w.heap.size w wr) ∧ Hid (Below w6.heap.size w6 wr)) (fun _ ii _ => yn - (intOf ii).toNat)
  case atStart => exact ⟨0, t2, by omega, rfl, rfl, by show _ = _; simp [restT], HB6, Below.refl _ _⟩
  case round =>
    obtain ⟨k, tx, hk, rfl, rfl, Htk, HBk, HB6k⟩ := hrel
    by_cases hlt : k < yn
    · have f1 : decide ((k : Int) < (yn : Int)) = true := by simp; omega
      have f1n : decide (k < yn) = true := by simp; omega
      have k0 : (0 : Int) ≤ (k : Int) := by omega
      have k1 : (k : Int) < (yn : Int) := by omega
      have hkr : k < r.length := by have := unhide HM; omega
      obtain ⟨bb, ob, rfl, hc⟩ := unhide HY6 wr (unhide HB6k) k hkr
      obtain ⟨n, hn⟩ : ∃ n, r.getD k 0 = n := ⟨_, rfl⟩
      rw [hn] at hc
      have hn40 : n < 1099511627776 := by
        refine unhide Hlt n (List.mem_cons_of_mem _ ?_)
        rw [← hn, List.getD_eq_getElem?_getD, List.getElem?_eq_getElem hkr]
        exact List.getElem_mem hkr
      obtain ⟨tn, htn⟩ : ∃ t, decDigits n = t := ⟨_, rfl⟩
      obtain ⟨t3, ht3⟩ : ∃ t : Bs, [46] ++ tn = t := ⟨_, rfl⟩
      obtain ⟨t4, ht4⟩ : ∃ t : Bs, tx ++ t3 = t := ⟨_, rfl⟩
      have ltn : tn.length ≤ 13 := by rw [← htn]; exact dec_len hn40
      have lt3 : t3.length ≤ 14 := by rw [← ht3, List.length_append, List.length_singleton]; omega
      have ltx : tx.length ≤ 1000 := by
        rw [unhide Htk, List.length_append]
        have h1 := restT_len (r.take k) (fun x hx => unhide Hlt x (List.mem_cons_of_mem _ (List.mem_of_mem_take hx)))
        have h2 : (r.take k).length ≤ 18 := by rw [List.length_take]; omega
        omega
      have cc3 := cat_str [46] tn t3 ht3 (by simp; omega)
      have cc4 := cat_str tx t3 t4 ht4 (by omega)
      have Ht4 : Hid (t4 = t2 ++ restT (r.take (k + 1))) := by
        show _ = _
        rw [take_snocN hkr, restT_snoc, hn, htn, ← ht4, ← ht3, unhide Htk]
        simp
      have HIc : Hid (Calls Tryz.prog 23 #[.int .i64 (n : Int)] wr fun e w' => e = .returned (.string (st tn)) ∧ Below wr.heap.size wr w') := by
        show Calls _ _ _ _ _
        rw [← htn]
        exact itoa_c wr (unhide HRd _ (unhide HBk)) n (by omega)
      clear hn htn ht3 ht4 Htk
      go_wp2_with fail
      refine (unhide HIc).mono ?_
      rintro e w7 ⟨rfl, hb7⟩
      have HB7 := hide ((unhide HBk).trans (hb7.mono (unhide HBk).size))
      have HB8 := hide ((unhide HB6k).trans (hb7.mono (unhide HB6k).size))
      clear hb7 HIc HBk HB6k
      go_wp2
      go_roundw
      case rel =>
        first
          | exact ⟨k + 1, t4, by omega, rfl, by go_num, Ht4, HB7, HB8⟩
          | ((repeat apply Exists.intro); exact ⟨⟨k + 1, t4, by omega, rfl, by go_num, Ht4, HB7, HB8⟩, rfl⟩)
      case measure => simp [intOf]; omega
    · have f1 : decide ((k : Int) < (yn : Int)) = false := by simp; omega
      have f1n : decide (k < yn) = false := by simp; omega
      have HF : Hid (oidT v = some tx) := by
        show _ = _
        rw [unhide HE2, unhide Htx, unhide Htk, List.take_of_length_le (by have := unhide HM; omega)]
      clear Htk
      go_wp2
      go_ret2
      exact ⟨by rw [unhide HF]; rfl, unhide HBk⟩
set_option maxRecDepth 100000 in
set_option maxHeartbeats 8000000 in
theorem oid_c (w : World) (S : Nat → Prop) (cs : List Value) (v : DV) (hRd : Rdy w) (hv : ValAt S w cs v) (hw : weight v ≤ 1000000)  :
    Calls Tryz.prog 9 #[.agg cs.toArray] w fun e w' => e = .returned (.tuple #[.string (st ((oidT v).getD [])), .bool (oidT v).isSome]) ∧ Below w.heap.size w w' := by
  by_cases h : v.cls = 0 ∧ v.tag = 6
  · obtain ⟨hc, ht⟩ := h
    cases hr : rightV v with
    | false => exact oid_bad w S cs v hRd hv hw hc ht hr
    | true =>
      obtain ⟨_, hoid⟩ := right_oid hr hc ht
      cases hg : oidG v.bytes with
      | none => exact oid_none w S cs v hRd hv hw hc ht hr hg
      | some gs =>
        cases gs with
        | nil =>
          unfold oidG at hg
          cases hgf : gFold v.bytes with
          | none => rw [hgf] at hg; cases hg
          | some stt =>
            rw [hgf] at hg
            simp only at hg
            split at hg
            · injection hg with hg
              exact absurd hg (oidG_end hoid (gs := stt.1) (n := stt.2) hgf).2
            · cases hg
        | cons g r => exact oid_some w S cs v hRd hv hw hc ht hr g r hg
  · exact oid_other w S cs v hRd hv hw h
end N
end Go.Proofs.YtcofnockikninabGreatDoor
