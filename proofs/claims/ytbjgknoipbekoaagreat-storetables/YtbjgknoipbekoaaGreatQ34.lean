/-
  The walks of bytes.Equal and the landed store's readMark, greaterMark and writeSafe.
-/
import Derived.Test.YtbjgknoipbekoaaGreatQ33
import Derived.Test.YtbjgknoipbekoaaGreatQ10
namespace Go.Proofs.YtbjgknoipbekoaaGreat
open Go.RowKit
theorem bytesIn_of {w : World} {sp : Option Addr} {c : Nat} {l : Bs} (h : BytesAt w (.slice sp l.length c) l) : Lib.BytesIn w sp l.length (l.map fun x => (x.toNat : Int)) := fun hn => by
  obtain ⟨sp', c', e, _, _, hc⟩ := bytes_open h
  simp only [Value.slice.injEq] at e
  obtain ⟨rfl, _, _⟩ := e
  obtain ⟨b, o, rfl, _, hcell⟩ := hc (by intro e; rw [e] at hn; simp at hn)
  refine ⟨b, o, rfl, fun i hi => ?_⟩
  rw [hcell i hi]
  simp [List.getD_eq_getElem?_getD, hi]
theorem bytesOf_map (l : Bs) : Lib.bytesOf (l.map fun x => (x.toNat : Int)) = l := by
  unfold Lib.bytesOf
  rw [List.map_map]
  have : ((fun n : Int => UInt8.ofNat n.toNat) ∘ fun x : UInt8 => (x.toNat : Int)) = id := by
    funext x
    simp
  rw [this, List.map_id]
theorem bequal_c {w : World} {x y : Value} {a b : Bs} (hx : BytesAt w x a) (hy : BytesAt w y b) : Calls Tryz.prog 82 #[x, y] w fun e w' => e = .returned (.bool (decide (a = b))) ∧ w' = w := by
  obtain ⟨sx, cx, rfl, _⟩ := bytes_open hx
  obtain ⟨sy, cy, rfl, _⟩ := bytes_open hy
  refine (Tryz.bytes_Equal_all sx sy a.length cx b.length cy (a.map fun x => (x.toNat : Int)) (b.map fun x => (x.toNat : Int)) w (List.length_map _) (List.length_map _) (bytesIn_of hx) (bytesIn_of hy)).mono ?_
  rintro e w' ⟨rfl, rfl⟩
  rw [bytesOf_map, bytesOf_map]
  refine ⟨?_, rfl⟩
  congr 2
  rw [Bool.eq_iff_iff]
  simp
/-- The generation of a sector's mark, at its place. -/
def rmk (s : Bs) (i : Nat) : Nat := if numB (s.take 4) ≤ 2147483647 ∧ numB (s.take 4) % 2 = i ∧ s = markB (numB (s.take 4)) then numB (s.take 4) else 0
theorem rmk_le (s : Bs) (i : Nat) : rmk s i ≤ marksG s := by
  unfold rmk marksG
  split
  · rename_i h
    by_cases h0 : 1 ≤ numB (s.take 4)
    · rw [if_pos ⟨h0, h.2.2⟩]
      exact Nat.le_refl _
    · omega
  · omega
theorem rmk_eq {s : Bs} {g : Nat} (h : marksG s = g) (h1 : 1 ≤ g) (h2 : g < 2147483648) : rmk s (g % 2) = g := by
  unfold marksG at h
  split at h
  · rename_i h3
    unfold rmk
    rw [h] at h3 ⊢
    rw [if_pos ⟨by omega, rfl, h3.2⟩]
  · omega
set_option maxRecDepth 100000 in
set_option maxHeartbeats 2000000 in
theorem sreadmark_c {w : World} {x : Value} {b : Bs} (hx : BytesAt w x b) (hb : b.length = 64) (i : Nat) (hi : i ≤ 1) : Calls Tryz.prog 62 #[x, .int .i64 (i : Int)] w fun e w' => e = .returned (.int .i64 ((rmk b i : Nat) : Int)) ∧ Below w.heap.size w w' := by
  have HX := hide hx
  obtain ⟨sp, c, rfl, hlc, _⟩ := bytes_open hx
  have h4 : (b.take 4).length ≤ 4 := by rw [List.length_take]; omega
  have hm4 := num_small4 (b.take 4) 4 h4
  rw [List.take_of_length_le h4] at hm4
  have hx4 := bytes_front hx 4 (by omega)
  have Hn := hide (snum_s w (.slice sp 4 c) (b.take 4) hx4 h4)
  have hsl : ∀ w', (Instr.sliceAt 23 (.slice sp 64 c) none (some (.int .i64 4)) none).run Tryz.prog w' = .ok (.slice sp 4 c) w' := fun w' => slice_front sp 64 c 4 (by omega) w'
  obtain ⟨m, hm⟩ : ∃ m, numB (b.take 4) = m := ⟨_, rfl⟩
  have HR : Hid (rmk b i = if m ≤ 2147483647 ∧ m % 2 = i ∧ b = markB m then m else 0) := by show _ = _; unfold rmk; rw [hm]
  rw [hm] at Hn hm4
  rw [hb] at HX ⊢
  have Hpl := hide (splace_c w m (by omega))
  obtain ⟨q, hq⟩ : ∃ q, m % 2 = q := ⟨_, rfl⟩
  have hq2 : q < 2 := by omega
  rw [hq] at Hpl HR
  have Hmk := hide (smark_c w m (by omega))
  obtain ⟨RES, hRES⟩ : ∃ y, rmk b i = y := ⟨_, rfl⟩
  rw [hRES] at HR ⊢
  clear hx hb h4 hx4 hm hlc hRES hq
  by_cases hA : 2147483647 < m
  · have d1 : decide ((2147483647 : Int) < (m : Int)) = true := by simp; omega
    have d1n : decide (2147483647 < m) = true := by simp; omega
    obtain rfl : RES = 0 := by rw [unhide HR, if_neg (by omega)]
    clear HR Hpl Hmk
    go_enter Tryz.func62, Tryz.ntmps62
    go_wp2_with (go_at_call 80; refine (unhide Hn).mono ?_; rintro e w3 ⟨rfl, hw⟩; have hw' := hw.symm; subst hw'; clear hw)
    go_ret
    exact ⟨rfl, Below.refl _ _⟩
  · have d1 : decide ((2147483647 : Int) < (m : Int)) = false := by simp; omega
    have d1n : decide (2147483647 < m) = false := by simp; omega
    by_cases hB : q = i
    · subst hB
      have d2 : ((q : Int) != (q : Int)) = false := by simp
      have d2n : decide ((q : Int) ≠ (q : Int)) = false := by simp
      by_cases hC : b = markB m
      · obtain rfl : RES = m := by rw [unhide HR, if_pos ⟨by omega, rfl, hC⟩]
        have He : Hid (∀ w' y, BytesAt w' (.slice sp 64 c) b → BytesAt w' y (markB RES) → Calls Tryz.prog 82 #[.slice sp 64 c, y] w' fun e w2 => e = .returned (.bool true) ∧ w2 = w') := fun w' y h1 h2 => by
          have := bequal_c h1 h2
          rw [decide_eq_true hC] at this
          exact this
        clear HR hC
        go_enter Tryz.func62, Tryz.ntmps62
        go_wp2_with (first
          | (go_at_call 80; refine (unhide Hn).mono ?_; rintro e w3 ⟨rfl, hw⟩; have hw' := hw.symm; subst hw'; clear hw)
          | (go_at_call 81; refine (unhide Hpl).mono ?_; rintro e w3 ⟨rfl, hw⟩; have hw' := hw.symm; subst hw'; clear hw)
          | (go_at_call 83; refine (unhide Hmk).mono ?_; rintro e w4 ⟨v4, rfl, hR4⟩; have HR4 := hide hR4; clear hR4)
          | (go_at_call 82; refine (unhide He w4 v4 ((unhide HX).below (unhide HR4).b) (unhide HR4).bytes).mono ?_; rintro e w5 ⟨rfl, hw⟩; have hw' := hw.symm; subst hw'; clear hw))
        go_ret
        exact ⟨rfl, (unhide HR4).b⟩
      · obtain rfl : RES = 0 := by rw [unhide HR, if_neg (fun h => hC h.2.2)]
        have He : Hid (∀ w' y, BytesAt w' (.slice sp 64 c) b → BytesAt w' y (markB m) → Calls Tryz.prog 82 #[.slice sp 64 c, y] w' fun e w2 => e = .returned (.bool false) ∧ w2 = w') := fun w' y h1 h2 => by
          have := bequal_c h1 h2
          rw [decide_eq_false hC] at this
          exact this
        clear HR hC
        go_enter Tryz.func62, Tryz.ntmps62
        go_wp2_with (first
          | (go_at_call 80; refine (unhide Hn).mono ?_; rintro e w3 ⟨rfl, hw⟩; have hw' := hw.symm; subst hw'; clear hw)
          | (go_at_call 81; refine (unhide Hpl).mono ?_; rintro e w3 ⟨rfl, hw⟩; have hw' := hw.symm; subst hw'; clear hw)
          | (go_at_call 83; refine (unhide Hmk).mono ?_; rintro e w4 ⟨v4, rfl, hR4⟩; have HR4 := hide hR4; clear hR4)
          | (go_at_call 82; refine (unhide He w4 v4 ((unhide HX).below (unhide HR4).b) (unhide HR4).bytes).mono ?_; rintro e w5 ⟨rfl, hw⟩; have hw' := hw.symm; subst hw'; clear hw))
        go_ret
        exact ⟨rfl, (unhide HR4).b⟩
    · have d2 : ((q : Int) != (i : Int)) = true := by simp; omega
      have d2n : decide ((q : Int) ≠ (i : Int)) = true := by simp; omega
      obtain rfl : RES = 0 := by rw [unhide HR, if_neg (fun h => hB h.2.1)]
      clear HR Hmk
      go_enter Tryz.func62, Tryz.ntmps62
      go_wp2_with (first
        | (go_at_call 80; refine (unhide Hn).mono ?_; rintro e w3 ⟨rfl, hw⟩; have hw' := hw.symm; subst hw'; clear hw)
        | (go_at_call 81; refine (unhide Hpl).mono ?_; rintro e w3 ⟨rfl, hw⟩; have hw' := hw.symm; subst hw'; clear hw))
      go_ret
      exact ⟨rfl, Below.refl _ _⟩
/-- The greater of the marks so far. -/
def topU (s : PS) : Nat → Nat
  | 0 => 0
  | i + 1 => max (topU s i) (rmk ((contentS s).getD i []) i)
theorem readB_at {s : PS} {i : Nat} (hd : s.down = false) (hi : i < s.safe.length) : readE s (i : Int) = 0 ∧ readB s (i : Int) = (contentS s).getD i [] := by
  have h := read_part (s := s) (a := 0) (n := s.safe.length) (i := i) hd (by omega) hi
  rw [Nat.zero_add] at h
  refine ⟨h.1, ?_⟩
  have h2 := h.2
  rw [W.partOf_at _ hi, Nat.zero_add] at h2
  rw [List.getD_eq_getElem?_getD, h2]
  rfl
section
variable {PAt : Set_ → Set_ → World → Value → PS → Prop} (HP : Plate PAt)
include HP in
set_option maxRecDepth 100000 in
set_option maxHeartbeats 2000000 in
theorem sgreater_c {S R : Set_} {w : World} {p : Value} {s : PS} (hp : PAt S R w p s) (h4 : 4 ≤ s.safe.length) (hd : s.down = false) (hl : s.loose.length ≤ 100000) (h64 : ∀ i, i < 2 → ((contentS s).getD i []).length = 64) (hT : topU s 2 ≤ 4294967296) : Calls Tryz.prog 40 #[p] w fun e w' => e = .returned (.tuple #[.int .i64 ((topU s 2 : Nat) : Int), .int .i64 0]) ∧ Below w.heap.size w w' := by
  have Hrd : Hid (∀ (i : Nat) w', i < 2 → Below w.heap.size w w' → Calls Tryz.prog 28 #[p, .int .i64 (i : Int)] w' fun e w2 => ∃ v, e = .returned (.tuple #[v, .int .i64 0]) ∧ BytesAt w2 v ((contentS s).getD i []) ∧ Below w'.heap.size w' w2) := fun i w' hi hb => by
    have hk := HP.kept hp (T := none_) (Aside.of_below hb) fun _ hk => hk.elim
    obtain ⟨e1, e2⟩ := readB_at (i := i) hd (by omega)
    refine (HP.read (i : Int) hk hl (by omega) (by omega)).mono ?_
    rintro e w2 ⟨v, rfl, ho, hb2⟩
    rw [e1]
    rw [e2] at ho
    exact ⟨v, rfl, ho.bytes, hb2⟩
  have H64 := hide h64
  have hT1 : topU s 1 ≤ 4294967296 := Nat.le_trans (Nat.le_max_left _ _) hT
  have HTi : Hid (∀ i, i ≤ 2 → topU s i ≤ 4294967296) := fun i hi => by
    rcases i with _ | _ | _ | i
    · exact Nat.zero_le _
    · exact hT1
    · exact hT
    · omega
  obtain ⟨a, rfl⟩ := HP.ptr hp
  obtain ⟨ANS, hA⟩ : ∃ y, topU s 2 = y := ⟨_, rfl⟩
  rw [hA]
  have HA := hide hA
  clear hp h4 hd hl h64 hT hT1 hA
  go_enter Tryz.func40, Tryz.ntmps40
  go_wp2
  go_loopw [4, 8] (fun gg ii wr => ∃ i g : Nat, i ≤ 2 ∧ g ≤ 4294967296 ∧ gg = .int .i64 (g : Int) ∧ ii = .int .i64 (i : Int) ∧ Hid (g = topU s i) ∧ Hid (Below w.heap.size w wr)) (fun _ ii _ => 2 - (intOf ii).toNat)
  case atStart => exact ⟨0, 0, by omega, by omega, rfl, rfl, rfl, Below.refl _ _⟩
  case round =>
    obtain ⟨i, g, hi, hg, rfl, rfl, HG, HB⟩ := hrel
    by_cases hlt : i < 2
    · have f1 : decide ((i : Int) < 2) = true := by simp; omega
      have f1n : decide (i < 2) = true := by simp; omega
      have Hr1 := hide (unhide Hrd i wr hlt (unhide HB))
      obtain ⟨m, hm⟩ : ∃ m, rmk ((contentS s).getD i []) i = m := ⟨_, rfl⟩
      have HM := hide hm
      have Hr2 : Hid (∀ w' x, BytesAt w' x ((contentS s).getD i []) → Calls Tryz.prog 62 #[x, .int .i64 (i : Int)] w' fun e w2 => e = .returned (.int .i64 (m : Int)) ∧ Below w'.heap.size w' w2) := fun w' x h => by
        have := sreadmark_c h (unhide H64 i hlt) i (by omega)
        rw [hm] at this
        exact this
      have HG2 : Hid (max g m = topU s (i + 1)) := by show _ = _; rw [unhide HG, ← hm]; rfl
      have hmx := unhide HTi (i + 1) (by omega)
      rw [← unhide HG2] at hmx
      clear hm
      by_cases hgm : g < m
      · have x1 : decide ((g : Int) < (m : Int)) = true := by simp; omega
        have x1n : decide (g < m) = true := by simp; omega
        have x2 : max (g : Int) (m : Int) = (m : Int) := by omega
        have HG3 : Hid (m = topU s (i + 1)) := by show _ = _; rw [← unhide HG2]; omega
        have hm4 : m ≤ 4294967296 := by omega
        clear HG HG2 hmx
        go_wp2_with (first
          | (go_at_call 28; refine (unhide Hr1).mono ?_; rintro e w2 ⟨v2, rfl, hv2, hb2⟩; have HV2 := hide hv2; have HB2 := hide hb2; obtain ⟨s2, c2, e2, _⟩ := bytes_open hv2; subst e2; clear hv2 hb2)
          | (go_at_call 62; refine (unhide Hr2 _ _ (unhide HV2)).mono ?_; rintro e w3 ⟨rfl, hb3⟩; have HB3 := hide ((unhide HB).trans (((unhide HB2).trans (hb3.mono (unhide HB2).size)).mono (unhide HB).size)); clear hb3))
        refine ⟨⟨i + 1, m, by omega, hm4, rfl, ?_, HG3, HB3⟩, ?_⟩
        · simp
        · simp [intOf]; omega
      · have x1 : decide ((g : Int) < (m : Int)) = false := by simp; omega
        have x1n : decide (g < m) = false := by simp; omega
        have x2 : max (g : Int) (m : Int) = (g : Int) := by omega
        have HG3 : Hid (g = topU s (i + 1)) := by show _ = _; rw [← unhide HG2]; omega
        clear HG HG2 hmx
        go_wp2_with (first
          | (go_at_call 28; refine (unhide Hr1).mono ?_; rintro e w2 ⟨v2, rfl, hv2, hb2⟩; have HV2 := hide hv2; have HB2 := hide hb2; obtain ⟨s2, c2, e2, _⟩ := bytes_open hv2; subst e2; clear hv2 hb2)
          | (go_at_call 62; refine (unhide Hr2 _ _ (unhide HV2)).mono ?_; rintro e w3 ⟨rfl, hb3⟩; have HB3 := hide ((unhide HB).trans (((unhide HB2).trans (hb3.mono (unhide HB2).size)).mono (unhide HB).size)); clear hb3))
        refine ⟨⟨i + 1, g, by omega, hg, rfl, ?_, HG3, HB3⟩, ?_⟩
        · simp
        · simp [intOf]; omega
    · obtain rfl : i = 2 := by omega
      obtain rfl : g = ANS := by rw [unhide HG, unhide HA]
      clear HG
      go_wp2
      go_ret2
      exact ⟨rfl, unhide HB⟩
/-- One sector is written, and synced. -/
def safeR (s : PS) (a : Nat) (b : Bs) : PS × Int := if writeE s (a : Int) b = 0 then (syncS (writeS s (a : Int) b), syncE (writeS s (a : Int) b)) else (writeS s (a : Int) b, writeE s (a : Int) b)
include HP in
set_option maxRecDepth 100000 in
set_option maxHeartbeats 2000000 in
theorem swsafe_c {S R : Set_} {w : World} {p : Value} {s : PS} (a : Nat) (x : Value) (b : Bs) (hp : PAt S R w p s) (hx : BytesAt w x b) (hxs : b ≠ [] → ∀ k, x.ownBlock = some k → ¬ S k) (hb : b.length = 64) (hl : s.loose.length ≤ 1000) (ha : a ≤ 100000) (hE1 : writeE s (a : Int) b = 0 ∨ writeE s (a : Int) b = 50) (hl2 : (writeS s (a : Int) b).loose.length ≤ 100000) :
    Calls Tryz.prog 85 #[p, .int .i64 (a : Int), x] w fun e w' => e = .returned (.int .i64 (safeR s a b).2) ∧ ∃ S' R', PAt S' R' w' p (safeR s a b).1 ∧ (∀ k, S' k → S k ∨ w.heap.size ≤ k) ∧ (∀ k, R' k → R k ∨ w.heap.size ≤ k) ∧ Aside S w w' := by
  have Hw := hide (HP.write (a : Int) x b hp hx hxs (by omega) (by omega) (by omega) (by omega))
  obtain ⟨pa, rfl⟩ := HP.ptr hp
  obtain ⟨sx, cx, rfl, _⟩ := bytes_open hx
  obtain ⟨N, hN⟩ : ∃ N, b.length = N := ⟨_, rfl⟩
  rw [hN] at Hw ⊢
  obtain ⟨RS, hRS⟩ : ∃ y, safeR s a b = y := ⟨_, rfl⟩
  rcases hE1 with hE | hE
  · have HRS : Hid (RS = (syncS (writeS s (a : Int) b), syncE (writeS s (a : Int) b))) := by show _ = _; rw [← hRS]; unfold safeR; rw [if_pos hE]
    have HL2 := hide hl2
    rw [hRS]
    rw [hE] at Hw
    obtain ⟨s1, hs1⟩ : ∃ y, writeS s (a : Int) b = y := ⟨_, rfl⟩
    rw [hs1] at Hw HRS HL2
    clear hp hx hxs hb hl hE hRS hN hs1 hl2
    go_enter Tryz.func85, Tryz.ntmps85
    go_wp2_with (first
      | (go_at_call 93; refine (unhide Hw).mono ?_; rintro e w2 ⟨rfl, S1, R1, hp1, hS1, hR1, ha1⟩; have HP1 := hide hp1; have HS1 := hide hS1; have HR1 := hide hR1; have HA1 := hide ha1; clear hp1 hS1 hR1 ha1)
      | (go_at_call 94; refine (HP.sync (unhide HP1) (unhide HL2)).mono ?_; rintro e w3 ⟨rfl, S2, R2, hp2, hS2, hR2, ha2⟩; have HP2 := hide hp2; have HS2 := hide hS2; have HR2 := hide hR2; have HA2 := hide ha2; clear hp2 hS2 hR2 ha2))
    go_ret
    have hsz := (unhide HA1).size
    refine ⟨by rw [unhide HRS]; rfl, S2, R2, by rw [unhide HRS]; exact unhide HP2, fun k hk => ?_, fun k hk => ?_, ?_⟩
    · rcases unhide HS2 k hk with h | h
      · exact unhide HS1 k h
      · exact Or.inr (by omega)
    · rcases unhide HR2 k hk with h | h
      · exact unhide HR1 k h
      · exact Or.inr (by omega)
    · exact (unhide HA1).trans (unhide HA2) fun i hi hk => by
        rcases unhide HS1 i hk with h | h
        · exact h
        · omega
  · have HRS : Hid (RS = (writeS s (a : Int) b, 50)) := by show _ = _; rw [← hRS]; unfold safeR; rw [if_neg (by rw [hE]; decide), hE]
    rw [hRS]
    rw [hE] at Hw
    obtain ⟨s1, hs1⟩ : ∃ y, writeS s (a : Int) b = y := ⟨_, rfl⟩
    rw [hs1] at Hw HRS
    clear hp hx hxs hb hl hE hRS hN hs1 hl2
    go_enter Tryz.func85, Tryz.ntmps85
    go_wp2_with (first
      | (go_at_call 93; refine (unhide Hw).mono ?_; rintro e w2 ⟨rfl, S1, R1, hp1, hS1, hR1, ha1⟩; have HP1 := hide hp1; have HS1 := hide hS1; have HR1 := hide hR1; have HA1 := hide ha1; clear hp1 hS1 hR1 ha1))
    go_ret
    exact ⟨by rw [unhide HRS]; rfl, S1, R1, by rw [unhide HRS]; exact unhide HP1, unhide HS1, unhide HR1, unhide HA1⟩
end
end Go.Proofs.YtbjgknoipbekoaaGreat
