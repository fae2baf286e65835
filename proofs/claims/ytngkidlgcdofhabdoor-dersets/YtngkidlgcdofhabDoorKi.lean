/-
  The walk of the landed readLength.
-/
import Derived.Test.YtngkidlgcdofhabDoorKh
namespace Go.Proofs.YtngkidlgcdofhabDoor
open Go.RowKit
namespace K
theorem num_snoc (l : Bs) (c : UInt8) : numB (l ++ [c]) = 256 * numB l + c.toNat := by simp [numB]
theorem num_lt : ∀ (k : Nat) (l : Bs), k ≤ l.length → numB (l.take k) < 256 ^ k
  | 0, l, _ => by simp [numB]
  | k + 1, l, h => by
    have e : l.take (k + 1) = l.take k ++ [l.getD k 0] := by
      rw [List.take_add_one, List.getElem?_eq_getElem h, List.getD_eq_getElem?_getD, List.getElem?_eq_getElem h]; rfl
    have := num_lt k l (by omega)
    have h2 := (l.getD k 0).toNat_lt
    rw [e, num_snoc, Nat.pow_succ]
    omega
/-- A number's first byte is nought just if it could have fewer. -/
theorem num_first (l : Bs) : ∀ k, k + 1 ≤ l.length → ((l.getD 0 0).toNat = 0 ↔ numB (l.take (k + 1)) < 256 ^ k)
  | 0, h => by
    match l, h with
    | a :: r, _ => simp [numB]
  | k + 1, h => by
    have ih := num_first l k (by omega)
    have e : l.take (k + 1 + 1) = l.take (k + 1) ++ [l.getD (k + 1) 0] := by
      rw [List.take_add_one, List.getElem?_eq_getElem h, List.getD_eq_getElem?_getD, List.getElem?_eq_getElem h]; rfl
    have h2 := (l.getD (k + 1) 0).toNat_lt
    rw [e, num_snoc, ih, Nat.pow_succ]
    omega
theorem len_cons (c : UInt8) (l : Bs) : lenP (c :: l) = if c.toNat < 128 then .yes (c.toNat, l) else if c.toNat = 128 ∨ 132 < c.toNat then .no 22 else if l.length < c.toNat - 128 then .no 20 else if numB (l.take (c.toNat - 128)) < 128 ∨ numB (l.take (c.toNat - 128)) < 256 ^ (c.toNat - 129) then .no 22 else .yes (numB (l.take (c.toNat - 128)), l.drop (c.toNat - 128)) := rfl
set_option maxRecDepth 100000 in
set_option maxHeartbeats 8000000 in
theorem rlen_c (w : World) (x : Value) (b : Bs) (hx : BytesAt w x b) (hl : b.length ≤ 1000000) :
    Calls Tryd.prog 24 #[x] w fun e w' => ∃ (tv : Nat) (rest : Value) (er : Nat), e = .returned (.tuple #[.int .i64 (tv : Int), rest, .int .i64 (er : Int)]) ∧ NumTold x b (lenP b) tv rest er ∧ tv ≤ 4294967295 ∧ Below w.heap.size w w' := by
  obtain ⟨sp, c, rfl, hcap, _, _⟩ := bytes_open hx
  obtain ⟨N, hN⟩ : ∃ N, b.length = N := ⟨_, rfl⟩
  have HN := hide hN
  have Hb := hide (Below.refl w.heap.size w)
  rw [hN] at hx hl hcap ⊢
  by_cases h0 : N = 0
  · subst h0
    have HT : Hid (lenP b = .no 20) := by show _ = _; rw [List.eq_nil_of_length_eq_zero hN]; rfl
    clear hx hN
    go_enter Tryd.func24, Tryd.ntmps24
    go_wp2
    go_ret3
    exact ⟨0, _, 20, rfl, by rw [unhide HT]; exact ⟨rfl, rfl⟩, by omega, unhide Hb⟩
  obtain ⟨ba, oa, p, rfl, hp, hpb, hc⟩ := byte_at hx hN 0 (by omega)
  rw [Nat.add_zero] at hc
  have z0 : ((N : Int) == 0) = false := by simp; omega
  have z1 : (0 : Int) < (N : Int) := by omega
  have z2 : 0 < N := by omega
  obtain ⟨sp1, c1, m1, hm1, hs1, hx1, hl1⟩ := tail_at (some ⟨ba, oa, none⟩) c hN 1 1 rfl (by omega)
  have HC : Hid (b = UInt8.ofNat p :: b.drop 1) := by
    show _ = _
    have := drop_cons (b := b) (k := 0) (by omega)
    rw [List.drop_zero] at this
    rw [← hp, UInt8.ofNat_toNat]
    exact this
  have hpu : (UInt8.ofNat p).toNat = p := by rw [UInt8.toNat_ofNat']; omega
  have HL : Hid (lenP b = if p < 128 then .yes (p, b.drop 1) else if p = 128 ∨ 132 < p then .no 22 else if m1 < p - 128 then .no 20 else if numB ((b.drop 1).take (p - 128)) < 128 ∨ numB ((b.drop 1).take (p - 128)) < 256 ^ (p - 129) then .no 22 else .yes (numB ((b.drop 1).take (p - 128)), (b.drop 1).drop (p - 128))) := by
    show _ = _
    have e := len_cons (UInt8.ofNat p) (b.drop 1)
    rw [hpu, hl1] at e
    rw [← e]
    exact congrArg lenP (unhide HC)
  have HX1 := hide (hx1 w hx)
  have HXf := hide hx1
  have HL1 := hide hl1
  clear hx hN hp hx1 hl1 HC hpu h0
  by_cases hs : p < 128
  · have HT : Hid (lenP b = .yes (p, b.drop 1)) := by show _ = _; rw [unhide HL, if_pos hs]
    have d1 : decide ((p : Int) < 128) = true := by simp; omega
    have d1n : decide (p < 128) = true := by simp; omega
    have up : IntKind.i64.wrap (p : Int) = (p : Int) := IntWalk.i64_in _ (by omega)
    clear HL
    go_enter Tryd.func24, Tryd.ntmps24
    go_wp2
    go_region
    go_wp2
    go_ret3
    exact ⟨p, .slice sp1 m1 c1, 0, rfl, by rw [unhide HT]; exact ⟨rfl, rfl, sp1, c1, by rw [unhide HL1], unhide HXf⟩, by omega, (unhide Hb).drew⟩
  have d1 : decide ((p : Int) < 128) = false := by simp; omega
  have d1n : decide (p < 128) = false := by simp; omega
  obtain ⟨C, hC⟩ : ∃ C, p - 128 = C := ⟨_, rfl⟩
  have eC : (p : Int) - 128 = (C : Int) := by omega
  have uC8 : IntKind.u8.wrap (C : Int) = (C : Int) := by rw [IntKind.wrap_u8']; omega
  have uC : IntKind.i64.wrap (C : Int) = (C : Int) := IntWalk.i64_in _ (by omega)
  by_cases h4 : p = 128 ∨ 132 < p
  · have HT : Hid (lenP b = .no 22) := by show _ = _; rw [unhide HL, if_neg hs, if_pos h4]
    by_cases hC0 : C = 0
    · have e0 : ((C : Int) == 0) = true := by simp; omega
      clear HL hC hC0 h4 hs
      go_enter Tryd.func24, Tryd.ntmps24
      go_wp2
      go_ret3
      exact ⟨0, _, 22, rfl, by rw [unhide HT]; exact ⟨rfl, rfl⟩, by omega, unhide Hb⟩
    · have e0 : ((C : Int) == 0) = false := by simp; omega
      have e4 : decide ((4 : Int) < (C : Int)) = true := by simp; omega
      have e4n : decide (4 < C) = true := by simp; omega
      clear HL hC hC0 h4 hs
      go_enter Tryd.func24, Tryd.ntmps24
      go_wp2
      go_ret3
      exact ⟨0, _, 22, rfl, by rw [unhide HT]; exact ⟨rfl, rfl⟩, by omega, unhide Hb⟩
  have hC1 : 1 ≤ C ∧ C ≤ 4 := by omega
  have e0 : ((C : Int) == 0) = false := by simp; omega
  have e4 : decide ((4 : Int) < (C : Int)) = false := by simp; omega
  have e4n : decide (4 < C) = false := by simp; omega
  have HL4 : Hid (lenP b = if m1 < C then .no 20 else if numB ((b.drop 1).take C) < 128 ∨ numB ((b.drop 1).take C) < 256 ^ (C - 1) then .no 22 else .yes (numB ((b.drop 1).take C), (b.drop 1).drop C)) := by
    show _ = _
    rw [unhide HL, if_neg hs, if_neg h4, hC, show p - 129 = C - 1 by omega]
  clear HL h4 hs hC
  by_cases hm : m1 < C
  · have HT : Hid (lenP b = .no 20) := by show _ = _; rw [unhide HL4, if_pos hm]
    have d5 : decide ((m1 : Int) < (C : Int)) = true := by simp; omega
    have d5n : decide (m1 < C) = true := by simp; omega
    clear HL4
    go_enter Tryd.func24, Tryd.ntmps24
    go_wp2
    go_ret3
    exact ⟨0, _, 20, rfl, by rw [unhide HT]; exact ⟨rfl, rfl⟩, by omega, unhide Hb⟩
  have d5 : decide ((m1 : Int) < (C : Int)) = false := by simp; omega
  have d5n : decide (m1 < C) = false := by simp; omega
  obtain ⟨ba', oa', f0, ee, hf0, hf0b, hcf⟩ := byte_at (unhide HX1) (unhide HL1) 0 (by omega)
  subst ee
  rw [Nat.add_zero] at hcf
  have HF : Hid (f0 = 0 ↔ numB ((b.drop 1).take C) < 256 ^ (C - 1)) := by
    have h1 := num_first (b.drop 1) (C - 1) (by rw [unhide HL1]; omega)
    rw [hf0, show C - 1 + 1 = C by omega] at h1
    exact h1
  obtain ⟨sp2, c2, m2, hm2, hs2, hx2, hl2⟩ := tail_at (some ⟨ba', oa', none⟩) c1 (unhide HL1) C (C : Int) rfl (by omega)
  have HX2 := hide hx2
  have HL2 := hide hl2
  have hcap1 : m1 ≤ c1 := by
    obtain ⟨_, _, e, h, _, _⟩ := bytes_open (unhide HX1)
    simp only [Value.slice.injEq] at e
    rw [← e.2.2, unhide HL1] at h
    exact h
  have hfr := slice_front (some ⟨ba', oa', none⟩) m1 c1 C (by omega)
  have m0 : (0 : Int) < (m1 : Int) := by omega
  have m0n : 0 < m1 := by omega
  have HCell : Hid (∀ k, k < m1 → w.cell? ⟨ba', oa' + k, none⟩ = some (.int .u8 (((b.drop 1).getD k 0).toNat : Int))) := fun k hk => by
    obtain ⟨_, _, e, _, _, hcc⟩ := bytes_open (unhide HX1)
    simp only [Value.slice.injEq] at e
    obtain ⟨e1, _, _⟩ := e
    subst e1
    obtain ⟨_, _, e2, _, hcell⟩ := hcc (fun e => by have := unhide HL1; rw [e] at this; simp at this; omega)
    simp only [Option.some.injEq, Addr.mk.injEq, and_true] at e2
    obtain ⟨rfl, rfl⟩ := e2
    exact hcell k (by rw [unhide HL1]; exact hk)
  clear hx2 hl2 hf0
  go_enter Tryd.func24, Tryd.ntmps24
  go_wp2
  go_loopw [2, 42] (fun aa ii wr => ∃ k acc : Nat, k ≤ C ∧ aa = .int .i64 (acc : Int) ∧ ii = .int .i64 (k : Int) ∧ wr = w ∧ Hid (acc = numB ((b.drop 1).take k))) (fun _ ii _ => C - (intOf ii).toNat)
  case atStart => exact ⟨0, 0, by omega, rfl, rfl, rfl, rfl⟩
  case round =>
    obtain ⟨k, acc, hk, rfl, rfl, hwr, HE⟩ := hrel
    have := hwr.symm
    subst this
    have hacc : acc < 256 ^ k := by rw [unhide HE]; exact num_lt k _ (by rw [unhide HL1]; omega)
    by_cases hlt : k < C
    · have hacc2 : acc < 16777216 := by
        have h2 := Nat.pow_le_pow_right (show 0 < 256 by omega) (show k ≤ 3 by omega)
        omega
      have ck := unhide HCell k (by omega)
      have HE2 : Hid (256 * acc + ((b.drop 1).getD k 0).toNat = numB ((b.drop 1).take (k + 1))) := by
        show _ = _
        have h : k < (b.drop 1).length := by rw [unhide HL1]; omega
        have e : (b.drop 1).take (k + 1) = (b.drop 1).take k ++ [(b.drop 1).getD k 0] := by
          rw [List.take_add_one, List.getElem?_eq_getElem h, List.getD_eq_getElem?_getD, List.getElem?_eq_getElem h]; rfl
        rw [e, num_snoc, ← unhide HE]
      have hqb := ((b.drop 1).getD k 0).toNat_lt
      obtain ⟨q, hq⟩ : ∃ q, ((b.drop 1).getD k 0).toNat = q := ⟨_, rfl⟩
      rw [hq] at ck HE2 hqb
      obtain ⟨a2, ha2⟩ : ∃ a2, acc * 256 = a2 := ⟨_, rfl⟩
      obtain ⟨a3, ha3⟩ : ∃ a3, a2 + q = a3 := ⟨_, rfl⟩
      have e2 : (acc : Int) * 256 = (a2 : Int) := by omega
      have u2 : IntKind.i64.wrap (a2 : Int) = (a2 : Int) := IntWalk.i64_in _ (by omega)
      have uq : IntKind.i64.wrap (q : Int) = (q : Int) := IntWalk.i64_in _ (by omega)
      have hor : bits .or .i64 (a2 : Int) (q : Int) = (a3 : Int) := by
        rw [or_i64 a2 q (by omega) (by omega), ← ha2, ← ha3, show acc * 256 = acc * 2 ^ 8 from rfl, or_add acc q 8 (by omega)]
        omega
      rw [show 256 * acc + q = a3 by omega] at HE2
      have d6 : decide ((k : Int) < (C : Int)) = true := by simp; omega
      have d6n : decide (k < C) = true := by simp; omega
      have k0 : (0 : Int) ≤ (k : Int) := by omega
      have k1 : (k : Int) < (C : Int) := by omega
      clear hq ha2 ha3 HE hacc hacc2
      go_wp2
      go_roundw
      case rel =>
        first
          | exact ⟨k + 1, a3, by omega, rfl, by go_num, rfl, HE2⟩
          | exact ⟨k + 1, a3, by omega, rfl, by go_num, trivial, HE2⟩
          | ((repeat apply Exists.intro); exact ⟨⟨k + 1, a3, by omega, rfl, by go_num, rfl, HE2⟩, rfl⟩)
          | ((repeat apply Exists.intro); exact ⟨⟨k + 1, a3, by omega, rfl, by go_num, trivial, HE2⟩, rfl⟩)
      case measure => simp [intOf]; omega
    · have hkC : k = C := by omega
      have HE' : Hid (acc = numB ((b.drop 1).take C)) := by rw [← hkC]; exact HE
      have d6 : decide ((k : Int) < (C : Int)) = false := by simp; omega
      have d6n : decide (k < C) = false := by simp; omega
      have hacc2 : acc ≤ 4294967295 := by
        have h2 := Nat.pow_le_pow_right (show 0 < 256 by omega) (show k ≤ 4 by omega)
        omega
      have HT0 : Hid (lenP b = if acc < 128 ∨ f0 = 0 then .no 22 else .yes (acc, (b.drop 1).drop C)) := by
        show _ = _
        rw [unhide HL4, if_neg hm, ← unhide HE']
        have := unhide HF
        rw [← unhide HE'] at this
        simp only [this]
      clear hkC HE HE' HL4 HF hacc
      by_cases hf : f0 = 0
      · have HT : Hid (lenP b = .no 22) := by show _ = _; rw [unhide HT0, if_pos (Or.inr hf)]
        have f1 : ((f0 : Int) == 0) = true := by simp; omega
        clear hf HT0
        go_wp2
        go_ret3
        exact ⟨0, _, 22, rfl, by rw [unhide HT]; exact ⟨rfl, rfl⟩, by omega, unhide Hb⟩
      have f1 : ((f0 : Int) == 0) = false := by simp; omega
      by_cases ha : acc < 128
      · have HT : Hid (lenP b = .no 22) := by show _ = _; rw [unhide HT0, if_pos (Or.inl ha)]
        have g1 : decide ((acc : Int) < 128) = true := by simp; omega
        have g1n : decide (acc < 128) = true := by simp; omega
        clear HT0
        go_wp2
        go_ret3
        exact ⟨0, _, 22, rfl, by rw [unhide HT]; exact ⟨rfl, rfl⟩, by omega, unhide Hb⟩
      · have HT : Hid (lenP b = .yes (acc, (b.drop 1).drop C)) := by show _ = _; rw [unhide HT0, if_neg (by omega)]
        have g1 : decide ((acc : Int) < 128) = false := by simp; omega
        have g1n : decide (acc < 128) = false := by simp; omega
        clear HT0
        go_wp2
        go_region
        go_wp2
        go_ret3
        exact ⟨acc, .slice sp2 m2 c2, 0, rfl, by rw [unhide HT]; exact ⟨rfl, rfl, sp2, c2, by rw [unhide HL2], fun W h => unhide HX2 W (unhide HXf W h)⟩, hacc2, (unhide Hb).drew⟩
end K
end Go.Proofs.YtngkidlgcdofhabDoor
