/-
  The walk of the reference's tag.
-/
import Derived.Test.YtngkidlgcdofhaaDoorRat2
import Derived.Deep.RegionHeld3
import Derived.Deep.Cut
namespace Go.Proofs.YtngkidlgcdofhaaDoor
open Go.RowKit
/-- What reading a tag tells, and where the reader stands then. -/
def TagTold (b : Bs) (s en : Nat) (c t : Int) (m : Bool) (er : Int) (s' : Nat) : Prop :=
  match tagP (leftB b s en) with
  | .no x => c = 0 ∧ t = 0 ∧ m = false ∧ er = (x : Int)
  | .yes (c', t', m', r) => c = (c' : Int) ∧ t = (t' : Int) ∧ m = m' ∧ er = 0 ∧ r = leftB b s' en
theorem longP_cons (i acc : Nat) (c : UInt8) (l : Bs) : longP i acc (c :: l) = if (i = 0 ∧ c = 128) ∨ i = 3 then .no 21 else if c.toNat < 128 then .yes (128 * acc + c.toNat % 128, l) else longP (i + 1) (128 * acc + c.toNat % 128) l := rfl
/-- While a long tag is read: the reader, the result's block, the value's block. -/
structure TAt (w wr : World) (K A V : Nat) (sb : Option Addr) (cb : Nat) (b : Bs) (s en : Nat) (cc n : Nat) (md : Bool) : Prop where
  r : RAt wr K sb cb b s en
  g : w.grownBy wr (some K)
  a : wr.heap[A]? = some (.cells dzero 32 (0, 0))
  v : wr.heap[V]? = some (.cells #[.int .i64 (cc : Int), .int .i64 (n : Int), .bool md, .slice none 0 0, .slice none 0 0] 32 (0, 0))
  av : A ≠ V
  vk : w.heap.size ≤ V ∧ K < V ∧ K ≠ A
  bv : ∀ x, sb = some x → x.block < V
theorem TAt.drew {w wr : World} {K A V : Nat} {sb : Option Addr} {cb : Nat} {b : Bs} {s en cc a : Nat} {md : Bool} (h : TAt w wr K A V sb cb b s en cc a md) : TAt w wr.drew K A V sb cb b s en cc a md := ⟨h.r.drew, h.g.drew, h.a, h.v, h.av, h.vk, h.bv⟩
theorem TAt.setK {w wr : World} {K A V : Nat} {sb : Option Addr} {cb : Nat} {b : Bs} {s en cc a : Nat} {md : Bool} (h : TAt w wr K A V sb cb b s en cc a md) (s' : Nat) (hs : s' ≤ en) : TAt w (wr.setCell ⟨K, 1, none⟩ (.int .i64 (s' : Int))) K A V sb cb b s' en cc a md :=
  ⟨h.r.set s' hs, grown_setCell h.g ⟨K, 1, none⟩ _ rfl, by rw [heap_setCell_other _ _ _ _ (by show A ≠ K; exact fun e => h.vk.2.2 e.symm)]; exact h.a, by rw [heap_setCell_other _ _ _ _ (by show V ≠ K; have := h.vk.2.1; omega)]; exact h.v, h.av, h.vk, h.bv⟩
theorem TAt.setV {w wr : World} {K A V : Nat} {sb : Option Addr} {cb : Nat} {b : Bs} {s en cc a : Nat} {md : Bool} (h : TAt w wr K A V sb cb b s en cc a md) (n : Nat) : TAt w (wr.setCell ⟨V, 1, none⟩ (.int .i64 (n : Int))) K A V sb cb b s en cc n md := by
  have hg := grown_setCell (World.grownBy.refl wr (some V)) ⟨V, 1, none⟩ (.int .i64 (n : Int)) rfl
  refine ⟨h.r.kept hg (by have := h.vk.2.1; omega) (fun _ x hx => by have := h.bv x hx; omega), grown_new h.g hg h.vk.1, ?_, ?_, h.av, h.vk, h.bv⟩
  · rw [heap_setCell_other _ _ _ _ (by show A ≠ V; exact h.av)]; exact h.a
  · rw [heap_setCell_same wr V 1 _ 32 _ h.v]; rfl
theorem TAt.tag {w wr : World} {K A V : Nat} {sb : Option Addr} {cb : Nat} {b : Bs} {s en cc a : Nat} {md : Bool} (h : TAt w wr K A V sb cb b s en cc a md) : wr.cell? ⟨V, 1, none⟩ = some (.int .i64 (a : Int)) ∧ wr.frozen? ⟨V, 1, none⟩ = false :=
  ⟨by rw [cell_of_row _ _ _ _ 32 (0, 0) h.v]; rfl, frozen_of_row _ _ _ _ 32 h.v⟩
set_option maxRecDepth 100000 in
set_option maxHeartbeats 8000000 in
theorem tag_any (w : World) (K : Nat) (sb : Option Addr) (cb : Nat) (b : Bs) (s en : Nat) (h : RAt w K sb cb b s en) :
    Calls Tryd.prog 28 #[.pointer (some ⟨K, 0, none⟩)] w fun e w' => ∃ (c t : Int) (m : Bool) (er : Int) (s' : Nat), e = .returned (.tuple #[.agg #[.int .i64 c, .int .i64 t, .bool m, .slice none 0 0, .slice none 0 0], .int .i64 er]) ∧ TagTold b s en c t m er s' ∧ s ≤ s' ∧ RAt w' K sb cb b s' en ∧ w.grownBy w' (some K) := by
  have H0 := hide h
  obtain ⟨w1, hw1⟩ : ∃ w1, w.alloc (.cells #[.int .i64 0, .int .i64 0, .bool false, .slice none 0 0, .slice none 0 0] 32) = w1 := ⟨_, rfl⟩
  have hb1 : Below w.heap.size w w1 := by rw [← hw1]; exact (Below.refl _ _).alloc (Nat.le_refl _) _
  have H1 := hide (h.below hb1)
  have Hg1 : Hid (w.grownBy w1 (some K)) := by show World.grownBy _ _ _; rw [← hw1]; exact grown_alloc (World.grownBy.refl _ _) _
  have HA1 : Hid (w1.heap[w.heap.size]? = some (.cells dzero 32 (0, 0))) := by show _ = _; rw [← hw1]; exact heap_alloc_new w _
  have Hs1 : Hid (w1.heap.size = w.heap.size + 1) := by show _ = _; rw [← hw1]; simp
  obtain ⟨A, hA⟩ : ∃ A, w.heap.size = A := ⟨_, rfl⟩
  have HA := hide hA
  rw [hA] at HA1 Hs1
  have hsz5 : (Tryd.prog.info? 32).map (·.size) = some 5 := by kernel_rfl
  have H5 : Hid ((dzero : Array Value).all (·.oneCell') = true) := by show _ = true; simp [dzero, Value.oneCell']
  have HEnd : Hid (∀ (cs old : Array Value) (W : World) (s' : Nat), RAt W K sb cb b s' en → w.grownBy W (some K) → W.heap[A]? = some (.cells old 32 (0, 0)) → RAt (W.setRow A cs) K sb cb b s' en ∧ w.grownBy (W.setRow A cs) (some K) ∧ (W.setRow A cs).heap[A]? = some (.cells cs 32 (0, 0))) := fun cs old W s' h1 h2 h3 => rat_end cs old (unhide H0) h1 h2 (unhide HA) h3
  obtain ⟨a0, a1, a2, a3⟩ := (unhide H1).c
  have hle := h.le
  have hfit := h.fit
  have hsm := h.small
  have sb1 : (s : Int) ≤ 65536 := by omega
  have enb : (en : Int) ≤ 65536 := by omega
  obtain ⟨N, hN⟩ : ∃ N, b.length = N := ⟨_, rfl⟩
  rw [hN] at a0
  have HN := hide hN
  by_cases hs : s < en
  case neg =>
    have d1 : decide ((en : Int) ≤ (s : Int)) = true := by simp; omega
    have d1n : decide (en ≤ s) = true := by simp; omega
    have HT : Hid (TagTold b s en 0 0 false 20 s) := by
      show TagTold _ _ _ _ _ _ _ _
      unfold TagTold
      rw [left_nil (by omega)]
      exact ⟨rfl, rfl, rfl, rfl⟩
    obtain ⟨e1, e2, e3⟩ := unhide HEnd dzero dzero w1.drew s (unhide H1).drew (unhide Hg1).drew (unhide HA1)
    have E1 := hide e1
    have E2 := hide e2
    have E3 := hide e3
    have HAd : Hid (w1.drew.heap[A]? = some (.cells dzero 32 (0, 0))) := unhide HA1
    clear h hN e1 e2 e3 hb1
    go_enter Tryd.func28, Tryd.ntmps28
    go_wp2
    go_region_held3 (fun w' => w'.cell? ⟨K, 0, none⟩ = some (.slice sb N cb) ∧ w'.cell? ⟨K, 1, none⟩ = some (.int .i64 (s : Int)) ∧ w'.cell? ⟨K, 2, none⟩ = some (.int .i64 (en : Int))) (go_keep) (fail)
    go_wp2_with (first | (refine wpList_store_row rfl 32 _ _ rfl A dzero rfl rfl 32 _ (unhide HAd) hsz5 rfl (unhide H5) ?_))
    exact bodyPost_ret (results_row_tmp Tryd.results28 _ _ A 32 _ (0, 0) _ rfl (unhide E3) Tryd.underlying32 rfl hsz5 (.int .i64 20) rfl) rfl ⟨0, 0, false, 20, s, rfl, unhide HT, Nat.le_refl _, unhide E1, unhide E2⟩
  have hl := left_cons hs hfit
  obtain ⟨ba, oa, rfl, hcell0⟩ := (unhide H1).byte hs
  have hcb := (b.getD s 0).toNat_lt
  have HL : Hid (∀ c t m er s', (match (if (b.getD s 0).toNat % 32 < 31 then Told.yes ((b.getD s 0).toNat / 64, (b.getD s 0).toNat % 32, decide ((b.getD s 0).toNat / 32 % 2 = 1), leftB b (s + 1) en) else
      match longP 0 0 (leftB b (s + 1) en) with
      | .no e => .no e
      | .yes (t, r) => if t < 31 then .no 21 else .yes ((b.getD s 0).toNat / 64, t, decide ((b.getD s 0).toNat / 32 % 2 = 1), r)) with | .no x => c = 0 ∧ t = 0 ∧ m = false ∧ er = (x : Int) | .yes (c', t', m', r) => c = (c' : Int) ∧ t = (t' : Int) ∧ m = m' ∧ er = 0 ∧ r = leftB b s' en) → TagTold b s en c t m er s') := fun c t m er s' hh => by
    unfold TagTold
    rw [hl, tagP_cons]
    exact hh
  obtain ⟨c, hc⟩ : ∃ c, (b.getD s 0).toNat = c := ⟨_, rfl⟩
  rw [hc] at hcell0 hcb HL
  have d1 : decide ((en : Int) ≤ (s : Int)) = false := by simp; omega
  have d1n : decide (en ≤ s) = false := by simp; omega
  have s0 : (0 : Int) ≤ (s : Int) := by omega
  have s1 : (s : Int) < (N : Int) := by omega
  have cb1 : (c : Int) ≤ 255 := by omega
  obtain ⟨S1, hS1⟩ : ∃ S1, s + 1 = S1 := ⟨_, rfl⟩
  have hS1i : (s : Int) + 1 = (S1 : Int) := by omega
  have HS1 : Hid (s + 1 = S1) := hS1
  have S1b : (S1 : Int) ≤ 65537 := by omega
  obtain ⟨cc, hcc⟩ : ∃ cc, c / 64 = cc := ⟨_, rfl⟩
  obtain ⟨ct, hct⟩ : ∃ ct, c % 32 = ct := ⟨_, rfl⟩
  obtain ⟨c3, hc3⟩ : ∃ c3, c / 32 = c3 := ⟨_, rfl⟩
  obtain ⟨m2, hm2⟩ : ∃ m2, c3 % 2 = m2 := ⟨_, rfl⟩
  obtain ⟨md, hmd⟩ : ∃ md, ((m2 : Int) == 1) = md := ⟨_, rfl⟩
  have ecc : (c : Int) / 64 = (cc : Int) := by omega
  have ect : (c : Int) % 32 = (ct : Int) := by omega
  have ec3 : (c : Int) / 32 = (c3 : Int) := by omega
  have em2 : (c3 : Int) % 2 = (m2 : Int) := by omega
  have c3b : (c3 : Int) ≤ 255 := by omega
  have hmdn : decide (m2 = 1) = md := by
    rw [← hmd]
    by_cases e : m2 = 1
    · subst e; rfl
    · rw [decide_eq_false e]; symm; simp; omega
  rw [hcc, hct, hc3, hm2, hmdn, hS1] at HL
  -- the world behind the first byte
  have HRW := hide (((unhide H1).set S1 (by omega)).drew.drew)
  have HgW : Hid (w.grownBy (w1.setCell ⟨K, 1, none⟩ (.int .i64 (S1 : Int))).drew.drew (some K)) := (grown_setCell (unhide Hg1) ⟨K, 1, none⟩ _ rfl).drew.drew
  have HAW : Hid ((w1.setCell ⟨K, 1, none⟩ (.int .i64 (S1 : Int))).drew.drew.heap[A]? = some (.cells dzero 32 (0, 0))) := by
    show (w1.setCell ⟨K, 1, none⟩ (.int .i64 (S1 : Int))).heap[A]? = _
    rw [heap_setCell_other _ _ _ _ (by show A ≠ K; have := h.lt; omega)]
    exact unhide HA1
  have HsW : Hid ((w1.setCell ⟨K, 1, none⟩ (.int .i64 (S1 : Int))).drew.drew.heap.size = A + 1) := by
    show (w1.setCell ⟨K, 1, none⟩ (.int .i64 (S1 : Int))).heap.size = _
    rw [World.size_setCell]
    exact unhide Hs1
  clear h hl hc hN hb1 HA1 H1 Hg1 hS1 hcc hct hc3 hm2 hmdn
  go_enter Tryd.func28, Tryd.ntmps28
  go_wp2
  go_region_held3 (fun w' => w'.cell? ⟨K, 0, none⟩ = some (.slice (some ⟨ba, oa, none⟩) N cb) ∧ w'.cell? ⟨K, 1, none⟩ = some (.int .i64 (s : Int)) ∧ w'.cell? ⟨K, 2, none⟩ = some (.int .i64 (en : Int)) ∧ w'.cell? ⟨ba, oa + s, none⟩ = some (.int .u8 (c : Int))) (go_keep) (fail)
  go_wp2
  go_region_held3 (fun w' => w'.cell? ⟨K, 0, none⟩ = some (.slice (some ⟨ba, oa, none⟩) N cb) ∧ w'.cell? ⟨K, 1, none⟩ = some (.int .i64 (s : Int)) ∧ w'.cell? ⟨K, 2, none⟩ = some (.int .i64 (en : Int)) ∧ w'.cell? ⟨ba, oa + s, none⟩ = some (.int .u8 (c : Int))) (go_keep) (fail)
  go_upto_region 5 with fail
  obtain ⟨WW, hWW⟩ : ∃ WW, (w1.setCell ⟨K, 1, none⟩ (.int .i64 (S1 : Int))).drew.drew = WW := ⟨_, rfl⟩
  rw [hWW]
  rw [hWW] at HRW HgW HAW HsW
  obtain ⟨V, hV⟩ : ∃ V, WW.heap.size = V := ⟨_, rfl⟩
  have HV : Hid (V = A + 1) := by have := unhide HsW; show _ = _; omega
  have HRV := hide ((unhide HRW).below ((Below.refl _ _).alloc (Nat.le_refl _) (.cells #[.int .i64 (cc : Int), .int .i64 (ct : Int), .bool md, .slice none 0 0, .slice none 0 0] 32)))
  have HgV := hide (grown_alloc (unhide HgW) (.cells #[.int .i64 (cc : Int), .int .i64 (ct : Int), .bool md, .slice none 0 0, .slice none 0 0] 32))
  have HAV : Hid ((WW.alloc (.cells #[.int .i64 (cc : Int), .int .i64 (ct : Int), .bool md, .slice none 0 0, .slice none 0 0] 32)).heap[A]? = some (.cells dzero 32 (0, 0))) := by
    show _ = _
    have hAW : A < WW.heap.size := by have := unhide HsW; omega
    rw [heap_alloc_old WW _ hAW]
    exact unhide HAW
  have HVV : Hid ((WW.alloc (.cells #[.int .i64 (cc : Int), .int .i64 (ct : Int), .bool md, .slice none 0 0, .slice none 0 0] 32)).heap[V]? = some (.cells #[.int .i64 (cc : Int), .int .i64 (ct : Int), .bool md, .slice none 0 0, .slice none 0 0] 32 (0, 0))) := by
    show _ = _
    rw [← hV]
    exact heap_alloc_new WW _
  have v1 : (WW.alloc (.cells #[.int .i64 (cc : Int), .int .i64 (ct : Int), .bool md, .slice none 0 0, .slice none 0 0] 32)).cell? ⟨V, 1, none⟩ = some (.int .i64 (ct : Int)) := by rw [cell_of_row _ _ _ _ 32 (0, 0) (unhide HVV)]; rfl
  have f1 : (WW.alloc (.cells #[.int .i64 (cc : Int), .int .i64 (ct : Int), .bool md, .slice none 0 0, .slice none 0 0] 32)).frozen? ⟨V, 1, none⟩ = false := frozen_of_row _ _ _ _ 32 (unhide HVV)
  have HRW2 := HRW
  have HgW2 := HgW
  have HVb : Hid (ba < V) := by have h1 := (unhide H0).old (fun e => by have := unhide HN; rw [e] at this; simp at this; omega) _ rfl; have h2 := unhide HA; have h3 := unhide HV; show ba < V; simp only at h1; omega
  clear hWW HRW HgW a0 a1 a2 a3 hcell0 hw1
  by_cases h31 : ct < 31
  · have t1 : decide ((ct : Int) < 31) = true := by simp; omega
    have t1n : decide (ct < 31) = true := by simp; omega
    have HT : Hid (TagTold b s en (cc : Int) (ct : Int) md 0 S1) := unhide HL _ _ _ _ _ (by rw [if_pos h31]; exact ⟨rfl, rfl, rfl, rfl, rfl⟩)
    obtain ⟨e1, e2, e3⟩ := unhide HEnd #[.int .i64 (cc : Int), .int .i64 (ct : Int), .bool md, .slice none 0 0, .slice none 0 0] dzero _ S1 (unhide HRV) (unhide HgV) (unhide HAV)
    have E1 := hide e1
    have E2 := hide e2
    have E3 := hide e3
    have H5' : Hid ((#[.int .i64 (cc : Int), .int .i64 (ct : Int), .bool md, .slice none 0 0, .slice none 0 0] : Array Value).all (·.oneCell') = true) := by show _ = true; simp [Value.oneCell']
    clear e1 e2 e3 HL
    go_wp2_with (first | (refine wpList_load_row rfl 32 _ rfl V rfl 32 _ (0, 0) _ (unhide HVV) Tryd.underlying32 rfl hsz5 ?_) | (refine wpList_store_row rfl 32 _ _ rfl A #[.int .i64 (cc : Int), .int .i64 (ct : Int), .bool md, .slice none 0 0, .slice none 0 0] rfl rfl 32 _ (unhide HAV) hsz5 rfl (unhide H5') ?_))
    exact bodyPost_ret (results_row_tmp Tryd.results28 _ _ A 32 _ (0, 0) _ rfl (unhide E3) Tryd.underlying32 rfl hsz5 (.int .i64 0) rfl) rfl ⟨_, _, _, 0, S1, rfl, unhide HT, by have := unhide HS1; omega, unhide E1, unhide E2⟩
  have t1 : decide ((ct : Int) < 31) = false := by simp; omega
  have t1n : decide (ct < 31) = false := by simp; omega
  have HL2 : Hid (∀ c t m er s', (match ((match longP 0 0 (leftB b S1 en) with
      | .no e => .no e
      | .yes (t, r) => if t < 31 then Told.no 21 else Told.yes (cc, t, md, r)) : Told (Nat × Nat × Bool × Bs)) with | .no x => c = 0 ∧ t = 0 ∧ m = false ∧ er = (x : Int) | .yes (c', t', m', r) => c = (c' : Int) ∧ t = (t' : Int) ∧ m = m' ∧ er = 0 ∧ r = leftB b s' en) → TagTold b s en c t m er s') := fun c t m er s' hh => unhide HL c t m er s' (by rw [if_neg h31]; exact hh)
  clear HL
  go_wp2
  have HT0 : Hid (TAt w (WW.alloc (.cells #[.int .i64 (cc : Int), .int .i64 (0 : Int), .bool md, .slice none 0 0, .slice none 0 0] 32)) K A V (some ⟨ba, oa, none⟩) cb b S1 en cc 0 md) := by
    refine ⟨(unhide HRW2).below ((Below.refl _ _).alloc (Nat.le_refl _) _), grown_alloc (unhide HgW2) _, ?_, ?_, by have := unhide HV; omega, ⟨by have := unhide HV; have := unhide HA; omega, by have := unhide HV; have := (unhide H0).lt; have := unhide HA; omega, by have := (unhide H0).lt; have := unhide HA; omega⟩, fun x hx => by cases hx; exact unhide HVb⟩
    · have hAW : A < WW.heap.size := by have := unhide HsW; omega
      rw [heap_alloc_old WW _ hAW]
      exact unhide HAW
    · rw [← hV]
      exact heap_alloc_new WW _
  clear HRV HgV HAV HVV v1 f1 hV HRW2 HgW2 HsW HAW
  have Hlo : Hid (longP 0 0 (leftB b S1 en) = longP 0 0 (leftB b (S1 + 0) en)) := rfl
  go_loopw [6] (fun ii wr => ∃ i a : Nat, i ≤ 3 ∧ ii = .int .i64 (i : Int) ∧ a < 128 ^ i ∧ Hid (longP 0 0 (leftB b S1 en) = longP i a (leftB b (S1 + i) en)) ∧ Hid (TAt w wr K A V (some ⟨ba, oa, none⟩) cb b (S1 + i) en cc a md)) (fun ii _ => 4 - (intOf ii).toNat)
  case atStart => exact ⟨0, 0, by omega, rfl, by simp, Hlo, HT0⟩
  case round =>
    obtain ⟨i, a, hi, rfl, ha, Hl, HT⟩ := hrel
    clear HT0 Hlo
    obtain ⟨s2, hs2⟩ : ∃ s2, S1 + i = s2 := ⟨_, rfl⟩
    rw [hs2] at Hl HT
    have Hs2 := hide hs2
    have hle2 := (unhide HT).r.le
    obtain ⟨z0, z1, z2, z3⟩ := (unhide HT).r.c
    rw [unhide HN] at z0
    have x4 : decide ((i : Int) < 4) = true := by simp; omega
    have x4n : decide (i < 4) = true := by simp; omega
    have s2b : (s2 : Int) ≤ 65537 := by omega
    have ha3 : a < 2097152 := Nat.lt_of_lt_of_le ha (Nat.le_trans (Nat.pow_le_pow_right (by omega) hi) (by decide))
    have hS1s : S1 ≤ s2 := by omega
    clear hs2
    by_cases hlt : s2 < en
    case neg =>
      have d2 : decide ((en : Int) ≤ (s2 : Int)) = true := by simp; omega
      have d2n : decide (en ≤ s2) = true := by simp; omega
      obtain ⟨e1, e2, e3⟩ := unhide HEnd dzero dzero wr.drew s2 ((unhide HT).r.drew) ((unhide HT).g.drew) ((unhide HT).a)
      have E1 := hide e1
      have E2 := hide e2
      have E3 := hide e3
      have HAd : Hid ((wr.drew).heap[A]? = some (.cells dzero 32 (0, 0))) := (unhide HT).a
      have HTT : Hid (TagTold b s en 0 0 false 20 s2) := unhide HL2 _ _ _ _ _ (by rw [unhide Hl, left_nil (by omega : en ≤ s2)]; unfold longP; exact ⟨rfl, rfl, rfl, rfl⟩)
      clear e1 e2 e3 HL2
      clear Hl
      go_wp2
      go_region_held3 (fun w' => w'.cell? ⟨K, 1, none⟩ = some (.int .i64 (s2 : Int)) ∧ w'.cell? ⟨K, 2, none⟩ = some (.int .i64 (en : Int))) (go_keep) (fail)
      go_wp2_with (first | (refine wpList_store_row rfl 32 _ _ rfl A dzero rfl rfl 32 _ (unhide HAd) hsz5 rfl (unhide H5) ?_))
      exact bodyPost_ret (results_row_tmp Tryd.results28 _ _ A 32 _ (0, 0) _ rfl (unhide E3) Tryd.underlying32 rfl hsz5 (.int .i64 20) rfl) rfl ⟨0, 0, false, 20, s2, rfl, unhide HTT, by have := unhide HS1; omega, unhide E1, unhide E2⟩
    have d2 : decide ((en : Int) ≤ (s2 : Int)) = false := by simp; omega
    have d2n : decide (en ≤ s2) = false := by simp; omega
    obtain ⟨bx, ox, e, hq⟩ := (unhide HT).r.byte hlt
    simp only [Option.some.injEq, Addr.mk.injEq, and_true] at e
    obtain ⟨rfl, rfl⟩ := e
    have hqb := (b.getD s2 0).toNat_lt
    have hlc := left_cons hlt (unhide HT).r.fit
    obtain ⟨s3, hs3⟩ : ∃ s3, s2 + 1 = s3 := ⟨_, rfl⟩
    have hl3 : longP 0 0 (leftB b S1 en) = if (i = 0 ∧ (b.getD s2 0).toNat = 128) ∨ i = 3 then .no 21 else if (b.getD s2 0).toNat < 128 then .yes (128 * a + (b.getD s2 0).toNat % 128, leftB b s3 en) else longP (i + 1) (128 * a + (b.getD s2 0).toNat % 128) (leftB b s3 en) := by
      rw [unhide Hl, hlc, longP_cons, hs3]
      have e : (b.getD s2 0 = 128) = ((b.getD s2 0).toNat = 128) := propext ⟨fun e => by rw [e]; rfl, fun e => UInt8.toNat_inj.1 (by rw [e]; rfl)⟩
      simp only [e]
    obtain ⟨q, hqq⟩ : ∃ q, (b.getD s2 0).toNat = q := ⟨_, rfl⟩
    rw [hqq] at hq hqb hl3
    have y0 : (0 : Int) ≤ (s2 : Int) := by omega
    have y1 : (s2 : Int) < (N : Int) := by have := unhide HN; have := (unhide HT).r.fit; omega
    have wq : IntKind.i64.wrap (q : Int) = (q : Int) := IntWalk.i64_in _ (by omega)
    have qb : (q : Int) ≤ 255 := by omega
    clear hlc hqq
    rcases (by omega : i = 3 ∨ (i = 0 ∧ q = 128) ∨ (i = 0 ∧ q ≠ 128) ∨ (i ≠ 0 ∧ i ≠ 3)) with hc | hc | hc | hc
    · subst hc
      have Hl3 : Hid (longP 0 0 (leftB b S1 en) = .no 21) := by show _ = _; rw [hl3, if_pos (Or.inr rfl)]
      obtain ⟨e1, e2, e3⟩ := unhide HEnd dzero dzero wr.drew.drew s2 ((unhide HT).r.drew.drew) ((unhide HT).g.drew.drew) ((unhide HT).a)
      have E1 := hide e1
      have E2 := hide e2
      have E3 := hide e3
      have HAd : Hid ((wr.drew.drew).heap[A]? = some (.cells dzero 32 (0, 0))) := (unhide HT).a
      have HTT : Hid (TagTold b s en 0 0 false 21 s2) := unhide HL2 _ _ _ _ _ (by rw [unhide Hl3]; exact ⟨rfl, rfl, rfl, rfl⟩)
      clear e1 e2 e3 HL2
      clear Hl hl3 Hl3
      go_wp2
      go_region_held3 (fun w' => w'.cell? ⟨K, 0, none⟩ = some (.slice (some ⟨ba, oa, none⟩) N cb) ∧ w'.cell? ⟨K, 1, none⟩ = some (.int .i64 (s2 : Int)) ∧ w'.cell? ⟨K, 2, none⟩ = some (.int .i64 (en : Int)) ∧ w'.cell? ⟨ba, oa + s2, none⟩ = some (.int .u8 (q : Int))) (go_keep) (fail)
      go_wp2
      go_region_held3 (fun w' => w'.cell? ⟨K, 0, none⟩ = some (.slice (some ⟨ba, oa, none⟩) N cb) ∧ w'.cell? ⟨K, 1, none⟩ = some (.int .i64 (s2 : Int)) ∧ w'.cell? ⟨K, 2, none⟩ = some (.int .i64 (en : Int)) ∧ w'.cell? ⟨ba, oa + s2, none⟩ = some (.int .u8 (q : Int))) (go_keep) (fail)
      go_wp2_with (first | (refine wpList_store_row rfl 32 _ _ rfl A dzero rfl rfl 32 _ (unhide HAd) hsz5 rfl (unhide H5) ?_))
      exact bodyPost_ret (results_row_tmp Tryd.results28 _ _ A 32 _ (0, 0) _ rfl (unhide E3) Tryd.underlying32 rfl hsz5 (.int .i64 21) rfl) rfl ⟨0, 0, false, 21, s2, rfl, unhide HTT, by have := unhide HS1; omega, unhide E1, unhide E2⟩
    · obtain ⟨rfl, rfl⟩ := hc
      have Hl3 : Hid (longP 0 0 (leftB b S1 en) = .no 21) := by show _ = _; rw [hl3, if_pos (Or.inl ⟨rfl, rfl⟩)]
      obtain ⟨e1, e2, e3⟩ := unhide HEnd dzero dzero wr.drew.drew s2 ((unhide HT).r.drew.drew) ((unhide HT).g.drew.drew) ((unhide HT).a)
      have E1 := hide e1
      have E2 := hide e2
      have E3 := hide e3
      have HAd : Hid ((wr.drew.drew).heap[A]? = some (.cells dzero 32 (0, 0))) := (unhide HT).a
      have HTT : Hid (TagTold b s en 0 0 false 21 s2) := unhide HL2 _ _ _ _ _ (by rw [unhide Hl3]; exact ⟨rfl, rfl, rfl, rfl⟩)
      clear e1 e2 e3 HL2
      clear Hl hl3 Hl3
      go_wp2
      go_region_held3 (fun w' => w'.cell? ⟨K, 0, none⟩ = some (.slice (some ⟨ba, oa, none⟩) N cb) ∧ w'.cell? ⟨K, 1, none⟩ = some (.int .i64 (s2 : Int)) ∧ w'.cell? ⟨K, 2, none⟩ = some (.int .i64 (en : Int)) ∧ w'.cell? ⟨ba, oa + s2, none⟩ = some (.int .u8 (128 : Int))) (go_keep) (fail)
      go_wp2
      go_region_held3 (fun w' => w'.cell? ⟨K, 0, none⟩ = some (.slice (some ⟨ba, oa, none⟩) N cb) ∧ w'.cell? ⟨K, 1, none⟩ = some (.int .i64 (s2 : Int)) ∧ w'.cell? ⟨K, 2, none⟩ = some (.int .i64 (en : Int)) ∧ w'.cell? ⟨ba, oa + s2, none⟩ = some (.int .u8 (128 : Int))) (go_keep) (fail)
      go_wp2_with (first | (refine wpList_store_row rfl 32 _ _ rfl A dzero rfl rfl 32 _ (unhide HAd) hsz5 rfl (unhide H5) ?_))
      exact bodyPost_ret (results_row_tmp Tryd.results28 _ _ A 32 _ (0, 0) _ rfl (unhide E3) Tryd.underlying32 rfl hsz5 (.int .i64 21) rfl) rfl ⟨0, 0, false, 21, s2, rfl, unhide HTT, by have := unhide HS1; omega, unhide E1, unhide E2⟩
    · obtain ⟨rfl, hq128⟩ := hc
      have x0 : ((q : Int) == 128) = false := by simp; omega
      rw [if_neg (by omega)] at hl3
      obtain ⟨qm, hqm⟩ : ∃ qm, q % 128 = qm := ⟨_, rfl⟩
      obtain ⟨n2, hn2⟩ : ∃ n2, 128 * a = n2 := ⟨_, rfl⟩
      obtain ⟨n3, hn3⟩ : ∃ n3, n2 + qm = n3 := ⟨_, rfl⟩
      rw [hqm, hn2, hn3] at hl3
      have eqm : (q : Int) % 128 = (qm : Int) := by omega
      have en2 : (128 : Int) * (a : Int) = (n2 : Int) := by omega
      have en3 : (n2 : Int) + (qm : Int) = (n3 : Int) := by omega
      have wn2 : IntKind.i64.wrap (n2 : Int) = (n2 : Int) := IntWalk.i64_in _ (by omega)
      have wn3 : IntKind.i64.wrap (n3 : Int) = (n3 : Int) := IntWalk.i64_in _ (by omega)
      have is3 : (s2 : Int) + 1 = (s3 : Int) := by omega
      obtain ⟨W1, hW1⟩ : ∃ W1, (wr.setCell ⟨K, 1, none⟩ (.int .i64 (s3 : Int))).drew.drew = W1 := ⟨_, rfl⟩
      have HT1 : Hid (TAt w W1 K A V (some ⟨ba, oa, none⟩) cb b s3 en cc a md) := by
        have := (unhide HT).setK s3 (by omega)
        show TAt _ _ _ _ _ _ _ _ _ _ _ _ _
        rw [← hW1]
        exact this.drew.drew
      obtain ⟨v1, f1⟩ := (unhide HT1).tag
      obtain ⟨W2, hW2⟩ : ∃ W2, W1.setCell ⟨V, 1, none⟩ (.int .i64 (n3 : Int)) = W2 := ⟨_, rfl⟩
      have HT2 : Hid (TAt w W2 K A V (some ⟨ba, oa, none⟩) cb b s3 en cc n3 md) := by
        show TAt _ _ _ _ _ _ _ _ _ _ _ _ _
        rw [← hW2]
        exact (unhide HT1).setV n3
      have v2 := (unhide HT2).tag.1
      have Hs3e : Hid (s3 = S1 + (0 + 1)) := by show _ = _; have := unhide Hs2; omega
      by_cases h128 : q < 128
      · have g1 : decide ((q : Int) < 128) = true := by simp; omega
        have g1n : decide (q < 128) = true := by simp; omega
        have Hl3 : Hid (longP 0 0 (leftB b S1 en) = .yes (n3, leftB b s3 en)) := by show _ = _; rw [hl3, if_pos h128]
        have HL3 : Hid (∀ c t m er s', (match ((if n3 < 31 then Told.no 21 else Told.yes (cc, n3, md, leftB b s3 en)) : Told (Nat × Nat × Bool × Bs)) with | .no x => c = 0 ∧ t = 0 ∧ m = false ∧ er = (x : Int) | .yes (c', t', m', r) => c = (c' : Int) ∧ t = (t' : Int) ∧ m = m' ∧ er = 0 ∧ r = leftB b s' en) → TagTold b s en c t m er s') := fun c t m er s' hh => unhide HL2 c t m er s' (by rw [unhide Hl3]; exact hh)
        by_cases h31b : n3 < 31
        · have g2 : decide ((n3 : Int) < 31) = true := by simp; omega
          have g2n : decide (n3 < 31) = true := by simp; omega
          obtain ⟨e1, e2, e3⟩ := unhide HEnd dzero dzero W2 s3 ((unhide HT2).r) ((unhide HT2).g) ((unhide HT2).a)
          have E1 := hide e1
          have E2 := hide e2
          have E3 := hide e3
          have HAd : Hid ((W2).heap[A]? = some (.cells dzero 32 (0, 0))) := (unhide HT2).a
          have HTT : Hid (TagTold b s en 0 0 false 21 s3) := unhide HL3 _ _ _ _ _ (by rw [if_pos h31b]; exact ⟨rfl, rfl, rfl, rfl⟩)
          clear e1 e2 e3 HL2
          clear HL3 Hl hl3 Hl3 HT HT1 HT2 hqm hn2 hn3
          go_wp2
          go_region_held3 (fun w' => w'.cell? ⟨K, 0, none⟩ = some (.slice (some ⟨ba, oa, none⟩) N cb) ∧ w'.cell? ⟨K, 1, none⟩ = some (.int .i64 (s2 : Int)) ∧ w'.cell? ⟨K, 2, none⟩ = some (.int .i64 (en : Int)) ∧ w'.cell? ⟨ba, oa + s2, none⟩ = some (.int .u8 (q : Int))) (go_keep) (fail)
          go_wp2
          go_region_held3 (fun w' => w'.cell? ⟨K, 0, none⟩ = some (.slice (some ⟨ba, oa, none⟩) N cb) ∧ w'.cell? ⟨K, 1, none⟩ = some (.int .i64 (s2 : Int)) ∧ w'.cell? ⟨K, 2, none⟩ = some (.int .i64 (en : Int)) ∧ w'.cell? ⟨ba, oa + s2, none⟩ = some (.int .u8 (q : Int))) (go_keep) (fail)
          go_wp2_with (first | (refine wpList_store_row rfl 32 _ _ rfl A dzero rfl rfl 32 _ (unhide HAd) hsz5 rfl (unhide H5) ?_))
          exact bodyPost_ret (results_row_tmp Tryd.results28 _ _ A 32 _ (0, 0) _ rfl (unhide E3) Tryd.underlying32 rfl hsz5 (.int .i64 21) rfl) rfl ⟨0, 0, false, 21, s3, rfl, unhide HTT, by have := unhide HS1; omega, unhide E1, unhide E2⟩
        · have g2 : decide ((n3 : Int) < 31) = false := by simp; omega
          have g2n : decide (n3 < 31) = false := by simp; omega
          have HTT : Hid (TagTold b s en (cc : Int) (n3 : Int) md 0 s3) := unhide HL3 _ _ _ _ _ (by rw [if_neg h31b]; exact ⟨rfl, rfl, rfl, rfl, rfl⟩)
          obtain ⟨e1, e2, e3⟩ := unhide HEnd #[.int .i64 (cc : Int), .int .i64 (n3 : Int), .bool md, .slice none 0 0, .slice none 0 0] dzero W2 s3 (unhide HT2).r (unhide HT2).g (unhide HT2).a
          have E1 := hide e1
          have E2 := hide e2
          have E3 := hide e3
          have H5' : Hid ((#[.int .i64 (cc : Int), .int .i64 (n3 : Int), .bool md, .slice none 0 0, .slice none 0 0] : Array Value).all (·.oneCell') = true) := by show _ = true; simp [Value.oneCell']
          have HVd := hide (unhide HT2).v
          have HAd := hide (unhide HT2).a
          clear e1 e2 e3 HL2 HL3 Hl hl3 Hl3 HT HT1 HT2 hqm hn2 hn3
          go_wp2
          go_region_held3 (fun w' => w'.cell? ⟨K, 0, none⟩ = some (.slice (some ⟨ba, oa, none⟩) N cb) ∧ w'.cell? ⟨K, 1, none⟩ = some (.int .i64 (s2 : Int)) ∧ w'.cell? ⟨K, 2, none⟩ = some (.int .i64 (en : Int)) ∧ w'.cell? ⟨ba, oa + s2, none⟩ = some (.int .u8 (q : Int))) (go_keep) (fail)
          go_wp2
          go_region_held3 (fun w' => w'.cell? ⟨K, 0, none⟩ = some (.slice (some ⟨ba, oa, none⟩) N cb) ∧ w'.cell? ⟨K, 1, none⟩ = some (.int .i64 (s2 : Int)) ∧ w'.cell? ⟨K, 2, none⟩ = some (.int .i64 (en : Int)) ∧ w'.cell? ⟨ba, oa + s2, none⟩ = some (.int .u8 (q : Int))) (go_keep) (fail)
          go_wp2_with (first | (refine wpList_load_row rfl 32 _ rfl V rfl 32 _ (0, 0) _ (unhide HVd) Tryd.underlying32 rfl hsz5 ?_) | (refine wpList_store_row rfl 32 _ _ rfl A #[.int .i64 (cc : Int), .int .i64 (n3 : Int), .bool md, .slice none 0 0, .slice none 0 0] rfl rfl 32 _ (unhide HAd) hsz5 rfl (unhide H5') ?_))
          exact bodyPost_ret (results_row_tmp Tryd.results28 _ _ A 32 _ (0, 0) _ rfl (unhide E3) Tryd.underlying32 rfl hsz5 (.int .i64 0) rfl) rfl ⟨_, _, _, 0, s3, rfl, unhide HTT, by have := unhide HS1; omega, unhide E1, unhide E2⟩
      · have g1 : decide ((q : Int) < 128) = false := by simp; omega
        have g1n : decide (q < 128) = false := by simp; omega
        have Hl3 : Hid (longP 0 0 (leftB b S1 en) = longP (0 + 1) n3 (leftB b (S1 + (0 + 1)) en)) := by show _ = _; rw [hl3, if_neg h128, unhide Hs3e]
        have HT3 : Hid (TAt w W2 K A V (some ⟨ba, oa, none⟩) cb b (S1 + (0 + 1)) en cc n3 md) := by show TAt _ _ _ _ _ _ _ _ _ _ _ _ _; rw [← unhide Hs3e]; exact unhide HT2
        have hn3b : n3 < 128 ^ (0 + 1) := by rw [Nat.pow_succ]; omega
        clear Hl hl3 HT HT1 HT2 hqm hn2 hn3 HL2 Hs3e
        go_wp2
        go_region_held3 (fun w' => w'.cell? ⟨K, 0, none⟩ = some (.slice (some ⟨ba, oa, none⟩) N cb) ∧ w'.cell? ⟨K, 1, none⟩ = some (.int .i64 (s2 : Int)) ∧ w'.cell? ⟨K, 2, none⟩ = some (.int .i64 (en : Int)) ∧ w'.cell? ⟨ba, oa + s2, none⟩ = some (.int .u8 (q : Int))) (go_keep) (fail)
        go_wp2
        go_region_held3 (fun w' => w'.cell? ⟨K, 0, none⟩ = some (.slice (some ⟨ba, oa, none⟩) N cb) ∧ w'.cell? ⟨K, 1, none⟩ = some (.int .i64 (s2 : Int)) ∧ w'.cell? ⟨K, 2, none⟩ = some (.int .i64 (en : Int)) ∧ w'.cell? ⟨ba, oa + s2, none⟩ = some (.int .u8 (q : Int))) (go_keep) (fail)
        go_wp2
        go_roundw
        case rel =>
          first
            | exact ⟨1, n3, by omega, by go_num, hn3b, Hl3, HT3⟩
            | ((repeat apply Exists.intro); exact ⟨⟨1, n3, by omega, by go_num, hn3b, Hl3, HT3⟩, rfl⟩)
        case measure => simp [intOf]
    · obtain ⟨hi0, hi3⟩ := hc
      have x0 : ((i : Int) == 0) = false := by simp; omega
      have x3 : ((i : Int) == 3) = false := by simp; omega
      rw [if_neg (by omega)] at hl3
      obtain ⟨qm, hqm⟩ : ∃ qm, q % 128 = qm := ⟨_, rfl⟩
      obtain ⟨n2, hn2⟩ : ∃ n2, 128 * a = n2 := ⟨_, rfl⟩
      obtain ⟨n3, hn3⟩ : ∃ n3, n2 + qm = n3 := ⟨_, rfl⟩
      rw [hqm, hn2, hn3] at hl3
      have eqm : (q : Int) % 128 = (qm : Int) := by omega
      have en2 : (128 : Int) * (a : Int) = (n2 : Int) := by omega
      have en3 : (n2 : Int) + (qm : Int) = (n3 : Int) := by omega
      have wn2 : IntKind.i64.wrap (n2 : Int) = (n2 : Int) := IntWalk.i64_in _ (by omega)
      have wn3 : IntKind.i64.wrap (n3 : Int) = (n3 : Int) := IntWalk.i64_in _ (by omega)
      have is3 : (s2 : Int) + 1 = (s3 : Int) := by omega
      obtain ⟨W1, hW1⟩ : ∃ W1, (wr.setCell ⟨K, 1, none⟩ (.int .i64 (s3 : Int))).drew.drew = W1 := ⟨_, rfl⟩
      have HT1 : Hid (TAt w W1 K A V (some ⟨ba, oa, none⟩) cb b s3 en cc a md) := by
        have := (unhide HT).setK s3 (by omega)
        show TAt _ _ _ _ _ _ _ _ _ _ _ _ _
        rw [← hW1]
        exact this.drew.drew
      obtain ⟨v1, f1⟩ := (unhide HT1).tag
      obtain ⟨W2, hW2⟩ : ∃ W2, W1.setCell ⟨V, 1, none⟩ (.int .i64 (n3 : Int)) = W2 := ⟨_, rfl⟩
      have HT2 : Hid (TAt w W2 K A V (some ⟨ba, oa, none⟩) cb b s3 en cc n3 md) := by
        show TAt _ _ _ _ _ _ _ _ _ _ _ _ _
        rw [← hW2]
        exact (unhide HT1).setV n3
      have v2 := (unhide HT2).tag.1
      have Hs3e : Hid (s3 = S1 + (i + 1)) := by show _ = _; have := unhide Hs2; omega
      by_cases h128 : q < 128
      · have g1 : decide ((q : Int) < 128) = true := by simp; omega
        have g1n : decide (q < 128) = true := by simp; omega
        have Hl3 : Hid (longP 0 0 (leftB b S1 en) = .yes (n3, leftB b s3 en)) := by show _ = _; rw [hl3, if_pos h128]
        have HL3 : Hid (∀ c t m er s', (match ((if n3 < 31 then Told.no 21 else Told.yes (cc, n3, md, leftB b s3 en)) : Told (Nat × Nat × Bool × Bs)) with | .no x => c = 0 ∧ t = 0 ∧ m = false ∧ er = (x : Int) | .yes (c', t', m', r) => c = (c' : Int) ∧ t = (t' : Int) ∧ m = m' ∧ er = 0 ∧ r = leftB b s' en) → TagTold b s en c t m er s') := fun c t m er s' hh => unhide HL2 c t m er s' (by rw [unhide Hl3]; exact hh)
        by_cases h31b : n3 < 31
        · have g2 : decide ((n3 : Int) < 31) = true := by simp; omega
          have g2n : decide (n3 < 31) = true := by simp; omega
          obtain ⟨e1, e2, e3⟩ := unhide HEnd dzero dzero W2 s3 ((unhide HT2).r) ((unhide HT2).g) ((unhide HT2).a)
          have E1 := hide e1
          have E2 := hide e2
          have E3 := hide e3
          have HAd : Hid ((W2).heap[A]? = some (.cells dzero 32 (0, 0))) := (unhide HT2).a
          have HTT : Hid (TagTold b s en 0 0 false 21 s3) := unhide HL3 _ _ _ _ _ (by rw [if_pos h31b]; exact ⟨rfl, rfl, rfl, rfl⟩)
          clear e1 e2 e3 HL2
          clear HL3 Hl hl3 Hl3 HT HT1 HT2 hqm hn2 hn3
          go_wp2
          go_region_held3 (fun w' => w'.cell? ⟨K, 0, none⟩ = some (.slice (some ⟨ba, oa, none⟩) N cb) ∧ w'.cell? ⟨K, 1, none⟩ = some (.int .i64 (s2 : Int)) ∧ w'.cell? ⟨K, 2, none⟩ = some (.int .i64 (en : Int)) ∧ w'.cell? ⟨ba, oa + s2, none⟩ = some (.int .u8 (q : Int))) (go_keep) (fail)
          go_wp2
          go_region_held3 (fun w' => w'.cell? ⟨K, 0, none⟩ = some (.slice (some ⟨ba, oa, none⟩) N cb) ∧ w'.cell? ⟨K, 1, none⟩ = some (.int .i64 (s2 : Int)) ∧ w'.cell? ⟨K, 2, none⟩ = some (.int .i64 (en : Int)) ∧ w'.cell? ⟨ba, oa + s2, none⟩ = some (.int .u8 (q : Int))) (go_keep) (fail)
          go_wp2_with (first | (refine wpList_store_row rfl 32 _ _ rfl A dzero rfl rfl 32 _ (unhide HAd) hsz5 rfl (unhide H5) ?_))
          exact bodyPost_ret (results_row_tmp Tryd.results28 _ _ A 32 _ (0, 0) _ rfl (unhide E3) Tryd.underlying32 rfl hsz5 (.int .i64 21) rfl) rfl ⟨0, 0, false, 21, s3, rfl, unhide HTT, by have := unhide HS1; omega, unhide E1, unhide E2⟩
        · have g2 : decide ((n3 : Int) < 31) = false := by simp; omega
          have g2n : decide (n3 < 31) = false := by simp; omega
          have HTT : Hid (TagTold b s en (cc : Int) (n3 : Int) md 0 s3) := unhide HL3 _ _ _ _ _ (by rw [if_neg h31b]; exact ⟨rfl, rfl, rfl, rfl, rfl⟩)
          obtain ⟨e1, e2, e3⟩ := unhide HEnd #[.int .i64 (cc : Int), .int .i64 (n3 : Int), .bool md, .slice none 0 0, .slice none 0 0] dzero W2 s3 (unhide HT2).r (unhide HT2).g (unhide HT2).a
          have E1 := hide e1
          have E2 := hide e2
          have E3 := hide e3
          have H5' : Hid ((#[.int .i64 (cc : Int), .int .i64 (n3 : Int), .bool md, .slice none 0 0, .slice none 0 0] : Array Value).all (·.oneCell') = true) := by show _ = true; simp [Value.oneCell']
          have HVd := hide (unhide HT2).v
          have HAd := hide (unhide HT2).a
          clear e1 e2 e3 HL2 HL3 Hl hl3 Hl3 HT HT1 HT2 hqm hn2 hn3
          go_wp2
          go_region_held3 (fun w' => w'.cell? ⟨K, 0, none⟩ = some (.slice (some ⟨ba, oa, none⟩) N cb) ∧ w'.cell? ⟨K, 1, none⟩ = some (.int .i64 (s2 : Int)) ∧ w'.cell? ⟨K, 2, none⟩ = some (.int .i64 (en : Int)) ∧ w'.cell? ⟨ba, oa + s2, none⟩ = some (.int .u8 (q : Int))) (go_keep) (fail)
          go_wp2
          go_region_held3 (fun w' => w'.cell? ⟨K, 0, none⟩ = some (.slice (some ⟨ba, oa, none⟩) N cb) ∧ w'.cell? ⟨K, 1, none⟩ = some (.int .i64 (s2 : Int)) ∧ w'.cell? ⟨K, 2, none⟩ = some (.int .i64 (en : Int)) ∧ w'.cell? ⟨ba, oa + s2, none⟩ = some (.int .u8 (q : Int))) (go_keep) (fail)
          go_wp2_with (first | (refine wpList_load_row rfl 32 _ rfl V rfl 32 _ (0, 0) _ (unhide HVd) Tryd.underlying32 rfl hsz5 ?_) | (refine wpList_store_row rfl 32 _ _ rfl A #[.int .i64 (cc : Int), .int .i64 (n3 : Int), .bool md, .slice none 0 0, .slice none 0 0] rfl rfl 32 _ (unhide HAd) hsz5 rfl (unhide H5') ?_))
          exact bodyPost_ret (results_row_tmp Tryd.results28 _ _ A 32 _ (0, 0) _ rfl (unhide E3) Tryd.underlying32 rfl hsz5 (.int .i64 0) rfl) rfl ⟨_, _, _, 0, s3, rfl, unhide HTT, by have := unhide HS1; omega, unhide E1, unhide E2⟩
      · have g1 : decide ((q : Int) < 128) = false := by simp; omega
        have g1n : decide (q < 128) = false := by simp; omega
        have Hl3 : Hid (longP 0 0 (leftB b S1 en) = longP (i + 1) n3 (leftB b (S1 + (i + 1)) en)) := by show _ = _; rw [hl3, if_neg h128, unhide Hs3e]
        have HT3 : Hid (TAt w W2 K A V (some ⟨ba, oa, none⟩) cb b (S1 + (i + 1)) en cc n3 md) := by show TAt _ _ _ _ _ _ _ _ _ _ _ _ _; rw [← unhide Hs3e]; exact unhide HT2
        have hn3b : n3 < 128 ^ (i + 1) := by rw [Nat.pow_succ]; omega
        clear Hl hl3 HT HT1 HT2 hqm hn2 hn3 HL2 Hs3e
        go_wp2
        go_region_held3 (fun w' => w'.cell? ⟨K, 0, none⟩ = some (.slice (some ⟨ba, oa, none⟩) N cb) ∧ w'.cell? ⟨K, 1, none⟩ = some (.int .i64 (s2 : Int)) ∧ w'.cell? ⟨K, 2, none⟩ = some (.int .i64 (en : Int)) ∧ w'.cell? ⟨ba, oa + s2, none⟩ = some (.int .u8 (q : Int))) (go_keep) (fail)
        go_wp2
        go_region_held3 (fun w' => w'.cell? ⟨K, 0, none⟩ = some (.slice (some ⟨ba, oa, none⟩) N cb) ∧ w'.cell? ⟨K, 1, none⟩ = some (.int .i64 (s2 : Int)) ∧ w'.cell? ⟨K, 2, none⟩ = some (.int .i64 (en : Int)) ∧ w'.cell? ⟨ba, oa + s2, none⟩ = some (.int .u8 (q : Int))) (go_keep) (fail)
        go_wp2
        go_roundw
        case rel =>
          first
            | exact ⟨i + 1, n3, by omega, by go_num, hn3b, Hl3, HT3⟩
            | ((repeat apply Exists.intro); exact ⟨⟨i + 1, n3, by omega, by go_num, hn3b, Hl3, HT3⟩, rfl⟩)
        case measure => simp [intOf]; omega
end Go.Proofs.YtngkidlgcdofhaaDoor
