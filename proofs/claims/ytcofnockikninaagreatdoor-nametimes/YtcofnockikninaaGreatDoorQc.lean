/-
  The reference's TimeValue (layer 10).
-/
import Derived.Test.YtcofnockikninaaGreatDoorQa
import Derived.Test.YtcofnockikninaaGreatDoorPE
import Derived.Deep.RegionLaw
import Derived.Deep.Cut
namespace Go.Proofs.YtcofnockikninaaGreatDoor
open Go.RowKit
/-- The digits, so many numbers of them. -/
def outK (f : Nat → Nat) (k : Nat) : Bs := [dig (f 0 / 1000), dig (f 0 / 100 % 10)] ++ (List.range k).flatMap fun i => [dig (f i / 10 % 10), dig (f i % 10)]
theorem outK_succ (f : Nat → Nat) (k : Nat) : outK f (k + 1) = outK f k ++ [dig (f k / 10 % 10), dig (f k % 10)] := by
  unfold outK
  rw [List.range_succ, List.flatMap_append]
  simp
theorem outK_len (f : Nat → Nat) : ∀ k, (outK f k).length = 2 + 2 * k
  | 0 => by simp [outK]
  | k + 1 => by rw [outK_succ, List.length_append, outK_len f k]; simp; omega
def datF (y m d h mi s : Nat) (k : Nat) : Nat := if k = 0 then y else if k = 1 then m else if k = 2 then d else if k = 3 then h else if k = 4 then mi else s
theorem outK_six {y m d h mi s : Nat} (hm : m ≤ 99) (hd : d ≤ 99) (hh : h ≤ 99) (hmi : mi ≤ 99) (hs : s ≤ 99) : outK (datF y m d h mi s) 6 = twos [y / 100, y % 100, m, d, h, mi, s] := by
  unfold outK twos
  simp only [List.range, List.range.loop, List.flatMap_cons, List.flatMap_nil, datF, if_true, List.cons_append, List.nil_append, List.append_nil, if_false, show ¬ (1 = 0) by omega, show ¬ (2 = 0) by omega, show ¬ (2 = 1) by omega, show ¬ (3 = 0) by omega, show ¬ (3 = 1) by omega, show ¬ (3 = 2) by omega, show ¬ (4 = 0) by omega, show ¬ (4 = 1) by omega, show ¬ (4 = 2) by omega, show ¬ (4 = 3) by omega, show ¬ (5 = 0) by omega, show ¬ (5 = 1) by omega, show ¬ (5 = 2) by omega, show ¬ (5 = 3) by omega, show ¬ (5 = 4) by omega]
  rw [show y / 100 / 10 = y / 1000 by omega, show y % 100 / 10 = y / 10 % 10 by omega, show y % 100 % 10 = y % 10 by omega, show m / 10 % 10 = m / 10 by omega, show d / 10 % 10 = d / 10 by omega, show h / 10 % 10 = h / 10 by omega, show mi / 10 % 10 = mi / 10 by omega, show s / 10 % 10 = s / 10 by omega]
namespace Q
open N K
theorem rvalue5 : (Tryz.prog.info? 33).map (·.size) = some 5 := by kernel_rfl
theorem six_at {w0 wr : World} {A : Nat} {a b c d e f : Value} {T : TypeId} (h : Blk w0 wr A #[a, b, c, d, e, f] T) : wr.cell? ⟨A, 0, none⟩ = some a ∧ wr.cell? ⟨A, 1, none⟩ = some b ∧ wr.cell? ⟨A, 2, none⟩ = some c ∧ wr.cell? ⟨A, 3, none⟩ = some d ∧ wr.cell? ⟨A, 4, none⟩ = some e ∧ wr.cell? ⟨A, 5, none⟩ = some f :=
  ⟨h.cell 0 _ rfl, h.cell 1 _ rfl, h.cell 2 _ rfl, h.cell 3 _ rfl, h.cell 4 _ rfl, h.cell 5 _ rfl⟩
/-- A block kept where another one is written. -/
theorem blk_kept {w0 wr : World} {R M : Nat} {cs : Array Value} {T : TypeId} (h : Blk w0 wr R cs T) (hM : w0.heap.size ≤ M) (hne : R ≠ M) (k : Nat) (v : Value) : Blk w0 (wr.setCell ⟨M, k, none⟩ v) R cs T :=
  ⟨by rw [heap_setCell_other _ _ _ _ hne]; exact h.res, below_set h.b h.b.size M hM k v, h.ge⟩
/-- A value of bytes, behind the writing of an older block. -/
theorem leaf_set {W : World} {x : Value} {l : Bs} {B w5s R : Nat} (h : BytesAt W x l) (hb : ∀ k, x.ownBlock = some k → w5s ≤ k) (hB : B ≤ w5s) (hR : R < w5s) (cs : Array Value) (c t : Int) (hl : l.length ≤ 9223372036854775807 := by simp [twos]) : ValAt (fun k => B ≤ k) (W.setRow R cs) [.int .i64 c, .int .i64 t, .bool false, x, .slice none 0 0] (.mk c t false l []) := by
  refine ⟨1, x, none, 0, rfl, ?_, fun _ k hk => Nat.le_trans hB (hb k hk), ⟨by simpa [DV.bytes] using hl, by simp [DV.kids]⟩, by simp [DV.kids], fun _ => rfl, fun h => absurd rfl h⟩
  obtain ⟨sp, c', rfl, h1, h2, h3⟩ := h
  refine ⟨sp, c', rfl, h1, h2, fun hne => ?_⟩
  obtain ⟨b, o, rfl, hr⟩ := h3 hne
  refine ⟨b, o, rfl, fun j v hv => ?_⟩
  have h5 := hr j v hv
  have hbk : w5s ≤ b := hb b rfl
  have hh : (W.setRow R cs).heap[b]? = W.heap[b]? := by
    simp only [World.setRow]
    rw [Array.getElem?_modify, if_neg (by omega)]
  rw [World.cell?_of_block hh]
  exact h5
/-- The year and the month, by the days. -/
theorem year_more {n y D : Nat} (hy : 1970 ≤ y) (h : yearsTo y + D = n) (hl : yearLen y ≤ D) (hn : n ≤ 2932896) : y + 1 ≤ 9999 ∧ yearsTo (y + 1) + (D - yearLen y) = n := by
  have e := yearsTo_succ y hy
  refine ⟨?_, by omega⟩
  rcases Nat.lt_or_ge 9999 (y + 1) with hh | hh
  · have h1 := yearsTo_mono (a := 10000) (b := y + 1) (by omega) (by omega)
    have e2 : yearsTo 10000 = 2932897 := by decide
    omega
  · exact hh
set_option maxRecDepth 100000 in
set_option maxHeartbeats 8000000 in
theorem qtimev_bad (w : World) (t : Int) (hlo : t < 0 ∨ 253402300799 < t) : Calls Tryz.prog 20 #[.int .i64 t] w fun e w' => ∃ (cs : List Value) (er : Nat) (V : DV), e = .returned (.tuple #[.agg cs.toArray, .int .i64 (er : Int)]) ∧ TimeV t er V ∧ ValAt (fun k => w.heap.size ≤ k) w' cs V ∧ Below w.heap.size w w' := by
  obtain ⟨w1, hw1⟩ : ∃ w1, w.alloc (.cells #[.int .i64 0, .int .i64 0, .bool false, .slice none 0 0, .slice none 0 0] 33) = w1 := ⟨_, rfl⟩
  have HR0 : Hid (Blk w w1 w.heap.size #[.int .i64 0, .int .i64 0, .bool false, .slice none 0 0, .slice none 0 0] 33) := by rw [← hw1]; exact Blk.new (Below.refl _ _) _ _
  obtain ⟨R, hR⟩ : ∃ R, w.heap.size = R := ⟨_, rfl⟩
  rw [hR] at HR0
  have H5 : Hid ((#[.int .i64 0, .int .i64 0, .bool false, .slice none 0 0, .slice none 0 0] : Array Value).all (·.oneCell') = true) := by show _ = true; simp [Value.oneCell']
  have HF : Hid (TimeV t 32 (.mk 0 0 false [] [])) := Or.inl ⟨hlo, rfl, rfl⟩
  obtain ⟨A, hA⟩ : ∃ A, decide (t < 0) = A := ⟨_, rfl⟩
  have d2 : A = false → decide ((253402300799 : Int) < t) = true := fun h => by
    rw [h] at hA
    have := of_decide_eq_false hA
    simp
    omega
  cases A with
  | true =>
    clear d2
    go_enter Tryz.func20, Tryz.ntmps20
    go_wp2_with (refine wpList_store_row rfl 33 _ _ rfl R _ rfl rfl 33 _ (unhide HR0).res rvalue5 rfl (unhide H5) ?_)
    exact bodyPost_ret (res_row_tmp Tryz.results20 _ _ R 33 #[.int .i64 0, .int .i64 0, .bool false, .slice none 0 0, .slice none 0 0] (0, 0) _ rfl ((unhide HR0).set #[.int .i64 0, .int .i64 0, .bool false, .slice none 0 0, .slice none 0 0]).res Tryz.underlying33 rfl rvalue5 _ rfl) rfl ⟨_, 32, _, rfl, unhide HF, zero_val _ _, ((unhide HR0).set #[.int .i64 0, .int .i64 0, .bool false, .slice none 0 0, .slice none 0 0]).b⟩
  | false =>
    have d3 := d2 rfl
    clear d2
    go_enter Tryz.func20, Tryz.ntmps20
    go_wp2_with (refine wpList_store_row rfl 33 _ _ rfl R _ rfl rfl 33 _ (unhide HR0).res rvalue5 rfl (unhide H5) ?_)
    exact bodyPost_ret (res_row_tmp Tryz.results20 _ _ R 33 #[.int .i64 0, .int .i64 0, .bool false, .slice none 0 0, .slice none 0 0] (0, 0) _ rfl ((unhide HR0).set #[.int .i64 0, .int .i64 0, .bool false, .slice none 0 0, .slice none 0 0]).res Tryz.underlying33 rfl rvalue5 _ rfl) rfl ⟨_, 32, _, rfl, unhide HF, zero_val _ _, ((unhide HR0).set #[.int .i64 0, .int .i64 0, .bool false, .slice none 0 0, .slice none 0 0]).b⟩
set_option maxRecDepth 100000 in
set_option maxHeartbeats 16000000 in
theorem qtimev_ok (w : World) (T : Nat) (hT : T ≤ 253402300799) : Calls Tryz.prog 20 #[.int .i64 (T : Int)] w fun e w' => ∃ (cs : List Value) (er : Nat) (V : DV), e = .returned (.tuple #[.agg cs.toArray, .int .i64 (er : Int)]) ∧ TimeV (T : Int) er V ∧ ValAt (fun k => w.heap.size ≤ k) w' cs V ∧ Below w.heap.size w w' := by
  obtain ⟨w1, hw1⟩ : ∃ w1, w.alloc (.cells #[.int .i64 0, .int .i64 0, .bool false, .slice none 0 0, .slice none 0 0] 33) = w1 := ⟨_, rfl⟩
  have hR0 : Blk w w1 w.heap.size #[.int .i64 0, .int .i64 0, .bool false, .slice none 0 0, .slice none 0 0] 33 := by rw [← hw1]; exact Blk.new (Below.refl _ _) _ _
  obtain ⟨R, hR⟩ : ∃ R, w.heap.size = R := ⟨_, rfl⟩
  rw [hR] at hR0
  obtain ⟨n, hn⟩ : ∃ n, T / 86400 = n := ⟨_, rfl⟩
  obtain ⟨a1, ha1⟩ : ∃ a, T / 3600 = a := ⟨_, rfl⟩
  obtain ⟨h, hh⟩ : ∃ a, a1 % 24 = a := ⟨_, rfl⟩
  obtain ⟨a2, ha2⟩ : ∃ a, T / 60 = a := ⟨_, rfl⟩
  obtain ⟨mi, hmi⟩ : ∃ a, a2 % 60 = a := ⟨_, rfl⟩
  obtain ⟨s, hs⟩ : ∃ a, T % 60 = a := ⟨_, rfl⟩
  have c1 : decide ((T : Int) < 0) = false := by simp
  have c2 : decide ((253402300799 : Int) < (T : Int)) = false := by simp; omega
  have c2n : decide (253402300799 < T) = false := by simp; omega
  have e1 : (T : Int) / 86400 = (n : Int) := by omega
  have e2 : (T : Int) / 3600 = (a1 : Int) := by omega
  have e3 : (a1 : Int) % 24 = (h : Int) := by omega
  have e4 : (T : Int) / 60 = (a2 : Int) := by omega
  have e5 : (a2 : Int) % 60 = (mi : Int) := by omega
  have e6 : (T : Int) % 60 = (s : Int) := by omega
  have bn : n ≤ 2932896 := by omega
  have bh : h ≤ 23 ∧ mi ≤ 59 ∧ s ≤ 59 := by omega
  have HTm : Hid (∀ y m d, timeDV T y m d = if y < 2050 then .mk 0 23 false (twos [y % 100, m, d, h, mi, s] ++ [90]) [] else .mk 0 24 false (twos [y / 100, y % 100, m, d, h, mi, s] ++ [90]) []) := fun y m d => by
    unfold timeDV
    rw [show T % 86400 / 3600 = h by omega, show T % 86400 / 60 % 60 = mi by omega, show T % 86400 % 60 = s by omega]
  have Hn := hide hn
  obtain ⟨w2, hw2⟩ : ∃ w2, w1.alloc (.cells #[.int .i64 1970, .int .i64 1, .int .i64 1, .int .i64 (h : Int), .int .i64 (mi : Int), .int .i64 (s : Int)] 94) = w2 := ⟨_, rfl⟩
  obtain ⟨M, hM⟩ : ∃ M, w1.heap.size = M := ⟨_, rfl⟩
  have hM0 : Blk w w2 M #[.int .i64 ((1970 : Nat) : Int), .int .i64 ((1 : Nat) : Int), .int .i64 ((1 : Nat) : Int), .int .i64 (h : Int), .int .i64 (mi : Int), .int .i64 (s : Int)] 94 := by rw [← hw2, ← hM]; exact Blk.new hR0.b _ _
  have HR2 : Hid (Blk w w2 R #[.int .i64 0, .int .i64 0, .bool false, .slice none 0 0, .slice none 0 0] 33) := by rw [← hw2]; exact hR0.lit _
  have HM2 := hide hM0
  have HRM : Hid (R ≠ M) := by have := hR0.lt; show _ ≠ _; omega
  have HMg : Hid (w.heap.size ≤ M) := hM0.ge
  have HRe := hide hR
  clear hn ha1 hh ha2 hmi hs hR0 hM0
  go_enter Tryz.func20, Tryz.ntmps20
  go_wp2
  clear hw1 hw2 hM hR c1 c2 c2n e1 e2 e3 e4 e5 e6
  go_loopw [4] (fun dd wr => ∃ y D : Nat, 1970 ≤ y ∧ y ≤ 9999 ∧ D ≤ 2932896 ∧ dd = .int .i64 (D : Int) ∧ Hid (yearsTo y + D = n) ∧ Hid (Blk w wr R #[.int .i64 0, .int .i64 0, .bool false, .slice none 0 0, .slice none 0 0] 33) ∧ Hid (Blk w wr M #[.int .i64 (y : Int), .int .i64 ((1 : Nat) : Int), .int .i64 ((1 : Nat) : Int), .int .i64 (h : Int), .int .i64 (mi : Int), .int .i64 (s : Int)] 94)) (fun dd _ => (intOf dd).toNat)
  case atStart => exact ⟨1970, n, by omega, by omega, bn, rfl, by show _ = _; rw [yearsTo_1970]; omega, HR2, HM2⟩
  case round =>
    obtain ⟨y, D, hy0, hy1, hD, rfl, HY, HR, HM⟩ := hrel
    clear HR2 HM2
    obtain ⟨j0, j1, j2, j3, j4, j5⟩ := six_at (unhide HM)
    have Hl := hide (leap_q wr y (by omega))
    obtain ⟨A, hA⟩ : ∃ A, decide (isLeap y) = A := ⟨_, rfl⟩
    rw [hA] at Hl
    obtain ⟨N, hN⟩ : ∃ N, (if A = true then 366 else 365) = N := ⟨_, rfl⟩
    have HN : Hid (yearLen y = N) := by
      show _ = _
      unfold yearLen
      rw [← hN, ← hA]
      by_cases hl : isLeap y
      · rw [if_pos hl, decide_eq_true hl]; simp
      · rw [if_neg hl, decide_eq_false hl]; simp
    have hN2 : N = 366 ∨ N = 365 := by rw [← hN]; split <;> omega
    have f0 : wr.frozen? ⟨M, 0, none⟩ = false := (unhide HM).frozen 0
    obtain ⟨z, hz⟩ : ∃ z, y + 1 = z := ⟨_, rfl⟩
    have ez : (y : Int) + 1 = (z : Int) := by omega
    by_cases hlt : D < N
    · have HF : Hid (D < yearLen y) := by show _ < _; rw [unhide HN]; exact hlt
      cases A with
      | true =>
        obtain rfl : 366 = N := by simpa using hN
        clear hA hN hN2 hz ez
        have gD : decide ((D : Int) < 366) = true := by simp; omega
        have gDn : decide (D < 366) = true := by simp; omega
        have gDi : (D : Int) < 366 := by omega
        go_wp2_with fail
        refine (unhide Hl).mono ?_
        rintro e w3 ⟨rfl, hw⟩
        obtain rfl := hw
        clear Hl
        go_wp2
        clear j0 j1 j2 j3 j4 j5 f0
        go_loopw [4] (fun dd wr => ∃ m E : Nat, 1 ≤ m ∧ m ≤ 12 ∧ E ≤ 366 ∧ dd = .int .i64 (E : Int) ∧ Hid (monthsTo y m + E = D) ∧ Hid (Blk w wr R #[.int .i64 0, .int .i64 0, .bool false, .slice none 0 0, .slice none 0 0] 33) ∧ Hid (Blk w wr M #[.int .i64 (y : Int), .int .i64 (m : Int), .int .i64 ((1 : Nat) : Int), .int .i64 (h : Int), .int .i64 (mi : Int), .int .i64 (s : Int)] 94)) (fun dd _ => (intOf dd).toNat)
        case atStart => exact ⟨1, D, by omega, by omega, by have := unhide HF; have := yearLen_pos y; omega, rfl, by show _ = _; simp [monthsTo], HR, HM⟩
        case round =>
          obtain ⟨m, E, hm0, hm1, hE, rfl, HE, HR3, HM3⟩ := hrel
          clear HR HM
          obtain ⟨j0, j1, j2, j3, j4, j5⟩ := six_at (unhide HM3)
          have Hd := hide (days_any y m (by omega) (by omega) wr)
          obtain ⟨Dm, hDm⟩ : ∃ Dm, daysP y m = Dm := ⟨_, rfl⟩
          rw [hDm] at Hd
          have hD31 := daysP_pos y m
          rw [hDm] at hD31
          by_cases hge : Dm ≤ E
          · have g1 : decide ((Dm : Int) ≤ (E : Int)) = true := by simp; omega
            have g1n : decide (Dm ≤ E) = true := by simp; omega
            have g2 : (Dm : Int) ≤ (E : Int) := by omega
            obtain ⟨G, hG⟩ : ∃ G, E - Dm = G := ⟨_, rfl⟩
            have eG : (E : Int) - (Dm : Int) = (G : Int) := by omega
            obtain ⟨z, hz⟩ : ∃ z, m + 1 = z := ⟨_, rfl⟩
            have ez : (m : Int) + 1 = (z : Int) := by omega
            have HE2 : Hid (monthsTo y z + G = D) := by show _ = _; rw [← hz, monthsTo_succ y m hm0, hDm]; have := unhide HE; omega
            have hz12 : z ≤ 12 := by
              rcases Nat.lt_or_ge 12 z with hh | hh
              · have h1 := unhide HE2
                have e13 : z = 13 := by omega
                rw [e13, months13] at h1
                have := unhide HF
                omega
              · exact hh
            have f1 : wr.frozen? ⟨M, 1, none⟩ = false := (unhide HM3).frozen 1
            have HM4 : Hid (Blk w (wr.setCell ⟨M, 1, none⟩ (.int .i64 (z : Int))) M #[.int .i64 (y : Int), .int .i64 (z : Int), .int .i64 ((1 : Nat) : Int), .int .i64 (h : Int), .int .i64 (mi : Int), .int .i64 (s : Int)] 94) := Blk.put (cs := [.int .i64 (y : Int), .int .i64 (m : Int), .int .i64 ((1 : Nat) : Int), .int .i64 (h : Int), .int .i64 (mi : Int), .int .i64 (s : Int)]) (unhide HM3) 1 (by simp) _
            have HR4 : Hid (Blk w (wr.setCell ⟨M, 1, none⟩ (.int .i64 (z : Int))) R #[.int .i64 0, .int .i64 0, .bool false, .slice none 0 0, .slice none 0 0] 33) := blk_kept (unhide HR3) (unhide HMg) (unhide HRM) 1 _
            have hGE : G < E := by omega
            have hz0 : 1 ≤ z := by omega
            clear hDm hG hz HE hge
            go_wp2_with (go_at_call 54; refine (unhide Hd).mono ?_; rintro e w' ⟨rfl, hw⟩; obtain rfl := hw)
            go_roundw
            case rel =>
              first
                | exact ⟨z, G, hz0, hz12, by omega, rfl, HE2, HR4, HM4⟩
                | ((repeat apply Exists.intro); exact ⟨⟨z, G, hz0, hz12, by omega, rfl, HE2, HR4, HM4⟩, rfl⟩)
            case measure => simp [intOf]; omega
          · have g1 : decide ((Dm : Int) ≤ (E : Int)) = false := by simp; omega
            have g1n : decide (Dm ≤ E) = false := by simp; omega
            have g2 : (E : Int) < (Dm : Int) := by omega
            obtain ⟨d, hd⟩ : ∃ d, E + 1 = d := ⟨_, rfl⟩
            have ed : (E : Int) + 1 = (d : Int) := by omega
            have HDt : Hid (DateIs n y m d) := ⟨hy0, hm0, hm1, by omega, by rw [hDm]; omega, by have := unhide HE; have := unhide HY; omega⟩
            have hd31 : d ≤ 31 := by omega
            have f2 : wr.frozen? ⟨M, 2, none⟩ = false := (unhide HM3).frozen 2
            have hM5 : Blk w (wr.setCell ⟨M, 2, none⟩ (.int .i64 (d : Int))) M #[.int .i64 (y : Int), .int .i64 (m : Int), .int .i64 (d : Int), .int .i64 (h : Int), .int .i64 (mi : Int), .int .i64 (s : Int)] 94 := Blk.put (cs := [.int .i64 (y : Int), .int .i64 (m : Int), .int .i64 ((1 : Nat) : Int), .int .i64 (h : Int), .int .i64 (mi : Int), .int .i64 (s : Int)]) (unhide HM3) 2 (by simp) _
            have hR5 : Blk w (wr.setCell ⟨M, 2, none⟩ (.int .i64 (d : Int))) R #[.int .i64 0, .int .i64 0, .bool false, .slice none 0 0, .slice none 0 0] 33 := blk_kept (unhide HR3) (unhide HMg) (unhide HRM) 2 _
            obtain ⟨w5, hw5⟩ : ∃ w5, wr.setCell ⟨M, 2, none⟩ (.int .i64 (d : Int)) = w5 := ⟨_, rfl⟩
            rw [hw5] at hM5 hR5
            have HM5 := hide hM5
            have HR5 := hide hR5
            obtain ⟨i0, i1, i2, i3, i4, i5⟩ := six_at hM5
            obtain ⟨b1, hb1⟩ : ∃ b, y / 1000 = b := ⟨_, rfl⟩
            obtain ⟨b2, hb2⟩ : ∃ b, y / 100 = b := ⟨_, rfl⟩
            obtain ⟨b3, hb3⟩ : ∃ b, b2 % 10 = b := ⟨_, rfl⟩
            obtain ⟨B1, hB1⟩ : ∃ b, 48 + b1 = b := ⟨_, rfl⟩
            obtain ⟨B3, hB3⟩ : ∃ b, 48 + b3 = b := ⟨_, rfl⟩
            have eb1 : (y : Int) / 1000 = (b1 : Int) := by omega
            have eb2 : (y : Int) / 100 = (b2 : Int) := by omega
            have eb3 : (b2 : Int) % 10 = (b3 : Int) := by omega
            have eB1 : (48 : Int) + (b1 : Int) = (B1 : Int) := by omega
            have eB3 : (48 : Int) + (b3 : Int) = (B3 : Int) := by omega
            have uB1 : IntKind.u8.wrap (B1 : Int) = (B1 : Int) := by rw [IntKind.wrap_u8']; omega
            have uB3 : IntKind.u8.wrap (B3 : Int) = (B3 : Int) := by rw [IntKind.wrap_u8']; omega
            have HY0 : Hid (BytesAt (w5.alloc (.cells #[.int .u8 (B1 : Int), .int .u8 (B3 : Int)] 5)) (.slice (some ⟨w5.heap.size, 0, none⟩) 2 2) [dig b1, dig b3]) := by
              show BytesAt _ _ _
              rw [← hB1, ← hB3]
              exact two_lit w5 b1 b3 (by omega) (by omega)
            have HRw : Hid (Row w5 (w5.alloc (.cells #[.int .u8 (B1 : Int), .int .u8 (B3 : Int)] 5)) (.slice none 0 0) []) := ⟨ownb_nil _ _, (Below.refl _ _).alloc (Nat.le_refl _) _⟩
            obtain ⟨f, hf⟩ : ∃ f, datF y m d h mi s = f := ⟨_, rfl⟩
            have HO0 : Hid (outK f 0 = [dig b1, dig b3]) := by show _ = _; rw [← hf, ← hb1, ← hb3, ← hb2]; simp [outK, datF]
            have Hf := hide hf
            clear hDm hd HE hge hM5 hR5 hb1 hb2 hb3 hB1 hB3 hf
            go_wp2_with (first
              | (go_at_call 54; refine (unhide Hd).mono ?_; rintro e w' ⟨rfl, hw⟩; obtain rfl := hw)
              | (at_builtin; refine wpList_append_row rfl _ _ rfl (.slice none 0 0) (.slice (some ⟨w5.heap.size, 0, none⟩) 2 2) [] [dig b1, dig b3] rfl (unhide HRw) rfl (unhide HY0) (by simp) ?_
                 intro v3 W3 hR3
                 obtain ⟨p3, q3, rfl⟩ := hR3.own.form
                 have hR3b : Row w5 W3 (.slice p3 2 q3) (outK f 0) := by rw [unhide HO0]; exact hR3
                 have HRo := hide hR3b
                 clear hR3 hR3b))
            clear g1 g1n g2 ed j0 j1 j2 j3 j4 j5 i0 i1 i2 i3 i4 i5 f2 hw5 eb1 eb2 eb3 eB1 eB3 uB1 uB3 HY0 HRw Hd HM3 HR3 HO0
            go_loopw [7, 8] (fun bb ii wr => ∃ (k N2 cv : Nat) (sv : Option Addr), k ≤ 6 ∧ N2 = 2 + 2 * k ∧ bb = .slice sv N2 cv ∧ ii = .int .i64 (k : Int) ∧ Hid (Row w5 wr (.slice sv N2 cv) (outK f k))) (fun _ ii _ => 6 - (intOf ii).toNat)
            case atStart => exact ⟨0, 2, q3, p3, by omega, rfl, rfl, rfl, HRo⟩
            case round =>
              obtain ⟨k, N2, cv, sv, hk, hN2, rfl, rfl, HRk⟩ := hrel
              clear HRo
              by_cases hlt : k < 6
              · have l1 : decide ((k : Int) < 6) = true := by simp; omega
                have l1n : decide (k < 6) = true := by simp; omega
                have k0 : (0 : Int) ≤ (k : Int) := by omega
                have k6 : (k : Int) < 6 := by omega
                obtain ⟨p, hp⟩ : ∃ p, f k = p := ⟨_, rfl⟩
                have hp9 : p ≤ 9999 := by
                  rw [← hp, ← unhide Hf]
                  unfold datF
                  split
                  · omega
                  split
                  · omega
                  split
                  · omega
                  split
                  · omega
                  split <;> omega
                have ck : wr.cell? ⟨M, k, none⟩ = some (.int .i64 (p : Int)) := by
                  refine ((unhide HM5).call (unhide HRk).b).cell k _ ?_
                  rw [← hp, ← unhide Hf]
                  rcases (by omega : k = 0 ∨ k = 1 ∨ k = 2 ∨ k = 3 ∨ k = 4 ∨ k = 5) with rfl | rfl | rfl | rfl | rfl | rfl <;> rfl
                obtain ⟨c1, hc1⟩ : ∃ b, p / 10 = b := ⟨_, rfl⟩
                obtain ⟨c2, hc2⟩ : ∃ b, c1 % 10 = b := ⟨_, rfl⟩
                obtain ⟨c3, hc3⟩ : ∃ b, p % 10 = b := ⟨_, rfl⟩
                obtain ⟨C2, hC2⟩ : ∃ b, 48 + c2 = b := ⟨_, rfl⟩
                obtain ⟨C3, hC3⟩ : ∃ b, 48 + c3 = b := ⟨_, rfl⟩
                have x1 : (p : Int) / 10 = (c1 : Int) := by omega
                have x2 : (c1 : Int) % 10 = (c2 : Int) := by omega
                have x3 : (p : Int) % 10 = (c3 : Int) := by omega
                have x2t : (c1 : Int).tmod 10 = (c2 : Int) := by rw [Int.tmod_eq_emod_of_nonneg (by omega)]; exact x2
                have x3t : (p : Int).tmod 10 = (c3 : Int) := by rw [Int.tmod_eq_emod_of_nonneg (by omega)]; exact x3
                have x1t : (p : Int).tdiv 10 = (c1 : Int) := by rw [Int.tdiv_eq_ediv_of_nonneg (by omega)]; exact x1
                have x4 : (48 : Int) + (c2 : Int) = (C2 : Int) := by omega
                have x5 : (48 : Int) + (c3 : Int) = (C3 : Int) := by omega
                have y1 : IntKind.u8.wrap (C2 : Int) = (C2 : Int) := by rw [IntKind.wrap_u8']; omega
                have y2 : IntKind.u8.wrap (C3 : Int) = (C3 : Int) := by rw [IntKind.wrap_u8']; omega
                have y3 : IntKind.i64.wrap (C2 : Int) = (C2 : Int) := IntWalk.i64_in _ (by omega)
                have y4 : IntKind.i64.wrap (C3 : Int) = (C3 : Int) := IntWalk.i64_in _ (by omega)
                have y5 : IntKind.i64.wrap (c1 : Int) = (c1 : Int) := IntWalk.i64_in _ (by omega)
                have HYk : Hid (BytesAt ((wr.alloc (.cells #[.int .u8 (C2 : Int), .int .u8 (C3 : Int)] 5)).drew) (.slice (some ⟨wr.heap.size, 0, none⟩) 2 2) [dig c2, dig c3]) := by
                  show BytesAt _ _ _
                  rw [← hC2, ← hC3]
                  exact (two_lit wr c2 c3 (by omega) (by omega)).below (Below.refl _ _).drew
                have HRl : Hid (Row w5 ((wr.alloc (.cells #[.int .u8 (C2 : Int), .int .u8 (C3 : Int)] 5)).drew) (.slice sv N2 cv) (outK f k)) := ((unhide HRk).lit _).call (Below.refl _ _).drew
                have HS : Hid (outK f (k + 1) = outK f k ++ [dig c2, dig c3]) := by show _ = _; rw [outK_succ, hp, hc1, hc2, hc3]
                have Hll : Hid ((outK f k).length + [dig c2, dig c3].length ≤ 1073741824) := by show _ ≤ _; rw [outK_len]; simp; omega
                obtain ⟨N3, hN3⟩ : ∃ N3, 2 + 2 * (k + 1) = N3 := ⟨_, rfl⟩
                have HN3 : Hid ((outK f k ++ [dig c2, dig c3]).length = N3) := by show _ = _; rw [List.length_append, outK_len, ← hN3]; simp; omega
                have HN4 := hide hN3
                have HN2 := hide hN2
                clear hp hc1 hc2 hc3 hC2 hC3 HRk hN3 hN2
                go_wp2
                go_region_law (first
                  | (refine step_append_row (wb := w5) rfl _ _ rfl (.slice sv N2 cv) (.slice (some ⟨wr.heap.size, 0, none⟩) 2 2) (outK f k) [dig c2, dig c3] (by simp [Act.eval]) (unhide HRl) (by simp [Act.eval]) (unhide HYk) (unhide Hll) ?_
                     intro v4 W4 hR4 _
                     obtain ⟨p4, q4, rfl⟩ := hR4.own.form
                     rw [unhide HN3] at hR4 ⊢
                     rw [← unhide HS] at hR4
                     have HR4 := hide hR4
                     clear hR4))
                all_goals
                  clear ck
                  go_wp2
                  go_roundw
                  case rel =>
                    first
                      | exact ⟨k + 1, N3, q4, p4, by omega, (unhide HN4).symm, rfl, by go_num, HR4⟩
                      | ((repeat apply Exists.intro); exact ⟨⟨k + 1, N3, q4, p4, by omega, (unhide HN4).symm, rfl, by go_num, HR4⟩, rfl⟩)
                  case measure => simp [intOf]; omega
              · have l1 : decide ((k : Int) < 6) = false := by simp; omega
                have l1n : decide (k < 6) = false := by simp; omega
                obtain rfl : k = 6 := by omega
                obtain rfl : N2 = 14 := by omega
                have HYz : Hid (BytesAt (wr.alloc (.cells #[.int .u8 90] 5)) (.slice (some ⟨wr.heap.size, 0, none⟩) 1 1) [90]) := bytes_new wr [90]
                have HRz := hide ((unhide HRk).lit (.cells #[.int .u8 90] 5))
                have HO6 : Hid (outK f 6 = twos [y / 100, y % 100, m, d, h, mi, s]) := by show _ = _; rw [← unhide Hf]; exact outK_six (by omega) (by omega) (by omega) (by omega) (by omega)
                clear HRk
                go_upto_region 22 with (first
                  | (at_builtin; refine wpList_append_row rfl _ _ rfl (.slice sv 14 cv) (.slice (some ⟨wr.heap.size, 0, none⟩) 1 1) (outK f 6) [90] rfl (unhide HRz) rfl (unhide HYz) (by rw [outK_len]; simp) ?_
                     intro v7 W7 hR7
                     obtain ⟨p7, q7, rfl⟩ := hR7.own.form
                     have h15 : (outK f 6 ++ [90]).length = 15 := by rw [List.length_append, outK_len]; rfl
                     rw [h15] at hR7 ⊢
                     have HR7 := hide hR7
                     clear hR7 h15))
                have hM7 := (unhide HM5).call (unhide HR7).b
                have HR8 := hide ((unhide HR5).call (unhide HR7).b)
                obtain ⟨i0, i1, i2, i3, i4, i5⟩ := six_at hM7
                have Hw5 : Hid (w.heap.size ≤ w5.heap.size ∧ R < w5.heap.size) := ⟨(unhide HR5).b.size, (unhide HR5).lt⟩
                have HTv : Hid (∀ V, V = timeDV T y m d → TimeV (T : Int) 0 V) := fun V hV => Or.inr ⟨by omega, by omega, rfl, y, m, d, by rw [Int.toNat_natCast, unhide Hn]; exact unhide HDt, by rw [Int.toNat_natCast]; exact hV⟩
                clear hM7
                by_cases h50 : y < 2050
                · have s1 : decide ((y : Int) < 2050) = true := by simp; omega
                  have s1n : decide (y < 2050) = true := by simp; omega
                  have HV : Hid (timeDV T y m d = .mk 0 23 false (twos [y % 100, m, d, h, mi, s] ++ [90]) []) := by show _ = _; rw [unhide HTm, if_pos h50]
                  obtain ⟨sx, hsx⟩ : ∃ sx, cutAt p7 q7 2 = sx := ⟨_, rfl⟩
                  have hsl : ∀ W, (Instr.sliceAt 22 (.slice p7 15 q7) (some (.int .i64 2)) none none).run Tryz.prog W = .ok (.slice sx 13 (q7 - 2)) W := fun W => by
                    have := slice_rest p7 15 q7 2 (by omega) W
                    rw [hsx] at this
                    exact this
                  have HBy : Hid (BytesAt W7 (.slice sx 13 (q7 - 2)) (twos [y % 100, m, d, h, mi, s] ++ [90]) ∧ ∀ k, (Value.slice sx 13 (q7 - 2)).ownBlock = some k → w5.heap.size ≤ k) := by
                    have h1 := (unhide HR7).bytes
                    rw [unhide HO6] at h1
                    have hlen : (twos [y / 100, y % 100, m, d, h, mi, s] ++ [90] : Bs).length = 15 := by rw [List.length_append, twos_len]; rfl
                    refine ⟨?_, fun k hk => ?_⟩
                    · have h2 := bytes_rest (b := twos [y / 100, y % 100, m, d, h, mi, s] ++ [90]) (sp := p7) (c := q7) (by rw [hlen]; exact h1) 2 (by rw [hlen]; omega)
                      rw [hlen, hsx] at h2
                      exact h2
                    · have h3 := OwnV.fresh (unhide HR7).own
                      rw [← hsx] at hk
                      unfold cutAt at hk
                      split at hk
                      · cases p7 with
                        | none => simp [Value.ownBlock] at hk
                        | some a => exact h3 k (by simpa [Value.ownBlock] using hk)
                      · cases p7 with
                        | none => simp [Value.ownBlock] at hk
                        | some a =>
                          have hk2 : (a.add 2).block = k := by simpa [Value.ownBlock] using hk
                          have hk3 : a.block = k := hk2
                          exact h3 k (by simpa [Value.ownBlock] using hk3)
                  have H6 : Hid ((#[.int .i64 0, .int .i64 23, .bool false, .slice sx 13 (q7 - 2), .slice none 0 0] : Array Value).all (·.oneCell') = true) := by show _ = true; simp [Value.oneCell']
                  obtain ⟨q8, hq8⟩ : ∃ q8, q7 - 2 = q8 := ⟨_, rfl⟩
                  rw [hq8] at HBy H6
                  simp only [hq8] at hsl
                  clear hsx hq8
                  go_wp2_with (refine wpList_store_row rfl 33 _ _ rfl R _ rfl rfl 33 _ (unhide HR8).res rvalue5 rfl (unhide H6) ?_)
                  refine bodyPost_ret (res_row_tmp Tryz.results20 _ _ R 33 #[.int .i64 0, .int .i64 23, .bool false, .slice sx 13 q8, .slice none 0 0] (0, 0) _ rfl ((unhide HR8).set #[.int .i64 0, .int .i64 23, .bool false, .slice sx 13 q8, .slice none 0 0]).res Tryz.underlying33 rfl rvalue5 _ rfl) rfl ?_
                  have hL := leaf_set (unhide HBy).1 (unhide HBy).2 (unhide Hw5).1 (unhide Hw5).2 #[.int .i64 0, .int .i64 23, .bool false, .slice sx 13 q8, .slice none 0 0] 0 23
                  exact ⟨[.int .i64 0, .int .i64 23, .bool false, .slice sx 13 q8, .slice none 0 0], 0, rfl, .mk 0 23 false (twos [y % 100, m, d, h, mi, s] ++ [90]) [], unhide HTv _ (unhide HV).symm, hL, ((unhide HR8).set #[.int .i64 0, .int .i64 23, .bool false, .slice sx 13 q8, .slice none 0 0]).b⟩
                · have s1 : decide ((y : Int) < 2050) = false := by simp; omega
                  have s1n : decide (y < 2050) = false := by simp; omega
                  have HV : Hid (timeDV T y m d = .mk 0 24 false (twos [y / 100, y % 100, m, d, h, mi, s] ++ [90]) []) := by show _ = _; rw [unhide HTm, if_neg h50]
                  have HBy : Hid (BytesAt W7 (.slice p7 15 q7) (twos [y / 100, y % 100, m, d, h, mi, s] ++ [90]) ∧ ∀ k, (Value.slice p7 15 q7).ownBlock = some k → w5.heap.size ≤ k) := by
                    have h1 := (unhide HR7).bytes
                    rw [unhide HO6] at h1
                    exact ⟨h1, OwnV.fresh (unhide HR7).own⟩
                  have H6 : Hid ((#[.int .i64 0, .int .i64 24, .bool false, .slice p7 15 q7, .slice none 0 0] : Array Value).all (·.oneCell') = true) := by show _ = true; simp [Value.oneCell']
                  go_wp2_with (refine wpList_store_row rfl 33 _ _ rfl R _ rfl rfl 33 _ (unhide HR8).res rvalue5 rfl (unhide H6) ?_)
                  refine bodyPost_ret (res_row_tmp Tryz.results20 _ _ R 33 #[.int .i64 0, .int .i64 24, .bool false, .slice p7 15 q7, .slice none 0 0] (0, 0) _ rfl ((unhide HR8).set #[.int .i64 0, .int .i64 24, .bool false, .slice p7 15 q7, .slice none 0 0]).res Tryz.underlying33 rfl rvalue5 _ rfl) rfl ?_
                  have hL := leaf_set (unhide HBy).1 (unhide HBy).2 (unhide Hw5).1 (unhide Hw5).2 #[.int .i64 0, .int .i64 24, .bool false, .slice p7 15 q7, .slice none 0 0] 0 24
                  exact ⟨[.int .i64 0, .int .i64 24, .bool false, .slice p7 15 q7, .slice none 0 0], 0, rfl, .mk 0 24 false (twos [y / 100, y % 100, m, d, h, mi, s] ++ [90]) [], unhide HTv _ (unhide HV).symm, hL, ((unhide HR8).set #[.int .i64 0, .int .i64 24, .bool false, .slice p7 15 q7, .slice none 0 0]).b⟩
      | false =>
        obtain rfl : 365 = N := by simpa using hN
        clear hA hN hN2 hz ez
        have gD : decide ((D : Int) < 365) = true := by simp; omega
        have gDn : decide (D < 365) = true := by simp; omega
        have gDi : (D : Int) < 365 := by omega
        go_wp2_with fail
        refine (unhide Hl).mono ?_
        rintro e w3 ⟨rfl, hw⟩
        obtain rfl := hw
        clear Hl
        go_wp2
        clear j0 j1 j2 j3 j4 j5 f0
        go_loopw [4] (fun dd wr => ∃ m E : Nat, 1 ≤ m ∧ m ≤ 12 ∧ E ≤ 366 ∧ dd = .int .i64 (E : Int) ∧ Hid (monthsTo y m + E = D) ∧ Hid (Blk w wr R #[.int .i64 0, .int .i64 0, .bool false, .slice none 0 0, .slice none 0 0] 33) ∧ Hid (Blk w wr M #[.int .i64 (y : Int), .int .i64 (m : Int), .int .i64 ((1 : Nat) : Int), .int .i64 (h : Int), .int .i64 (mi : Int), .int .i64 (s : Int)] 94)) (fun dd _ => (intOf dd).toNat)
        case atStart => exact ⟨1, D, by omega, by omega, by have := unhide HF; have := yearLen_pos y; omega, rfl, by show _ = _; simp [monthsTo], HR, HM⟩
        case round =>
          obtain ⟨m, E, hm0, hm1, hE, rfl, HE, HR3, HM3⟩ := hrel
          clear HR HM
          obtain ⟨j0, j1, j2, j3, j4, j5⟩ := six_at (unhide HM3)
          have Hd := hide (days_any y m (by omega) (by omega) wr)
          obtain ⟨Dm, hDm⟩ : ∃ Dm, daysP y m = Dm := ⟨_, rfl⟩
          rw [hDm] at Hd
          have hD31 := daysP_pos y m
          rw [hDm] at hD31
          by_cases hge : Dm ≤ E
          · have g1 : decide ((Dm : Int) ≤ (E : Int)) = true := by simp; omega
            have g1n : decide (Dm ≤ E) = true := by simp; omega
            have g2 : (Dm : Int) ≤ (E : Int) := by omega
            obtain ⟨G, hG⟩ : ∃ G, E - Dm = G := ⟨_, rfl⟩
            have eG : (E : Int) - (Dm : Int) = (G : Int) := by omega
            obtain ⟨z, hz⟩ : ∃ z, m + 1 = z := ⟨_, rfl⟩
            have ez : (m : Int) + 1 = (z : Int) := by omega
            have HE2 : Hid (monthsTo y z + G = D) := by show _ = _; rw [← hz, monthsTo_succ y m hm0, hDm]; have := unhide HE; omega
            have hz12 : z ≤ 12 := by
              rcases Nat.lt_or_ge 12 z with hh | hh
              · have h1 := unhide HE2
                have e13 : z = 13 := by omega
                rw [e13, months13] at h1
                have := unhide HF
                omega
              · exact hh
            have f1 : wr.frozen? ⟨M, 1, none⟩ = false := (unhide HM3).frozen 1
            have HM4 : Hid (Blk w (wr.setCell ⟨M, 1, none⟩ (.int .i64 (z : Int))) M #[.int .i64 (y : Int), .int .i64 (z : Int), .int .i64 ((1 : Nat) : Int), .int .i64 (h : Int), .int .i64 (mi : Int), .int .i64 (s : Int)] 94) := Blk.put (cs := [.int .i64 (y : Int), .int .i64 (m : Int), .int .i64 ((1 : Nat) : Int), .int .i64 (h : Int), .int .i64 (mi : Int), .int .i64 (s : Int)]) (unhide HM3) 1 (by simp) _
            have HR4 : Hid (Blk w (wr.setCell ⟨M, 1, none⟩ (.int .i64 (z : Int))) R #[.int .i64 0, .int .i64 0, .bool false, .slice none 0 0, .slice none 0 0] 33) := blk_kept (unhide HR3) (unhide HMg) (unhide HRM) 1 _
            have hGE : G < E := by omega
            have hz0 : 1 ≤ z := by omega
            clear hDm hG hz HE hge
            go_wp2_with (go_at_call 54; refine (unhide Hd).mono ?_; rintro e w' ⟨rfl, hw⟩; obtain rfl := hw)
            go_roundw
            case rel =>
              first
                | exact ⟨z, G, hz0, hz12, by omega, rfl, HE2, HR4, HM4⟩
                | ((repeat apply Exists.intro); exact ⟨⟨z, G, hz0, hz12, by omega, rfl, HE2, HR4, HM4⟩, rfl⟩)
            case measure => simp [intOf]; omega
          · have g1 : decide ((Dm : Int) ≤ (E : Int)) = false := by simp; omega
            have g1n : decide (Dm ≤ E) = false := by simp; omega
            have g2 : (E : Int) < (Dm : Int) := by omega
            obtain ⟨d, hd⟩ : ∃ d, E + 1 = d := ⟨_, rfl⟩
            have ed : (E : Int) + 1 = (d : Int) := by omega
            have HDt : Hid (DateIs n y m d) := ⟨hy0, hm0, hm1, by omega, by rw [hDm]; omega, by have := unhide HE; have := unhide HY; omega⟩
            have hd31 : d ≤ 31 := by omega
            have f2 : wr.frozen? ⟨M, 2, none⟩ = false := (unhide HM3).frozen 2
            have hM5 : Blk w (wr.setCell ⟨M, 2, none⟩ (.int .i64 (d : Int))) M #[.int .i64 (y : Int), .int .i64 (m : Int), .int .i64 (d : Int), .int .i64 (h : Int), .int .i64 (mi : Int), .int .i64 (s : Int)] 94 := Blk.put (cs := [.int .i64 (y : Int), .int .i64 (m : Int), .int .i64 ((1 : Nat) : Int), .int .i64 (h : Int), .int .i64 (mi : Int), .int .i64 (s : Int)]) (unhide HM3) 2 (by simp) _
            have hR5 : Blk w (wr.setCell ⟨M, 2, none⟩ (.int .i64 (d : Int))) R #[.int .i64 0, .int .i64 0, .bool false, .slice none 0 0, .slice none 0 0] 33 := blk_kept (unhide HR3) (unhide HMg) (unhide HRM) 2 _
            obtain ⟨w5, hw5⟩ : ∃ w5, wr.setCell ⟨M, 2, none⟩ (.int .i64 (d : Int)) = w5 := ⟨_, rfl⟩
            rw [hw5] at hM5 hR5
            have HM5 := hide hM5
            have HR5 := hide hR5
            obtain ⟨i0, i1, i2, i3, i4, i5⟩ := six_at hM5
            obtain ⟨b1, hb1⟩ : ∃ b, y / 1000 = b := ⟨_, rfl⟩
            obtain ⟨b2, hb2⟩ : ∃ b, y / 100 = b := ⟨_, rfl⟩
            obtain ⟨b3, hb3⟩ : ∃ b, b2 % 10 = b := ⟨_, rfl⟩
            obtain ⟨B1, hB1⟩ : ∃ b, 48 + b1 = b := ⟨_, rfl⟩
            obtain ⟨B3, hB3⟩ : ∃ b, 48 + b3 = b := ⟨_, rfl⟩
            have eb1 : (y : Int) / 1000 = (b1 : Int) := by omega
            have eb2 : (y : Int) / 100 = (b2 : Int) := by omega
            have eb3 : (b2 : Int) % 10 = (b3 : Int) := by omega
            have eB1 : (48 : Int) + (b1 : Int) = (B1 : Int) := by omega
            have eB3 : (48 : Int) + (b3 : Int) = (B3 : Int) := by omega
            have uB1 : IntKind.u8.wrap (B1 : Int) = (B1 : Int) := by rw [IntKind.wrap_u8']; omega
            have uB3 : IntKind.u8.wrap (B3 : Int) = (B3 : Int) := by rw [IntKind.wrap_u8']; omega
            have HY0 : Hid (BytesAt (w5.alloc (.cells #[.int .u8 (B1 : Int), .int .u8 (B3 : Int)] 5)) (.slice (some ⟨w5.heap.size, 0, none⟩) 2 2) [dig b1, dig b3]) := by
              show BytesAt _ _ _
              rw [← hB1, ← hB3]
              exact two_lit w5 b1 b3 (by omega) (by omega)
            have HRw : Hid (Row w5 (w5.alloc (.cells #[.int .u8 (B1 : Int), .int .u8 (B3 : Int)] 5)) (.slice none 0 0) []) := ⟨ownb_nil _ _, (Below.refl _ _).alloc (Nat.le_refl _) _⟩
            obtain ⟨f, hf⟩ : ∃ f, datF y m d h mi s = f := ⟨_, rfl⟩
            have HO0 : Hid (outK f 0 = [dig b1, dig b3]) := by show _ = _; rw [← hf, ← hb1, ← hb3, ← hb2]; simp [outK, datF]
            have Hf := hide hf
            clear hDm hd HE hge hM5 hR5 hb1 hb2 hb3 hB1 hB3 hf
            go_wp2_with (first
              | (go_at_call 54; refine (unhide Hd).mono ?_; rintro e w' ⟨rfl, hw⟩; obtain rfl := hw)
              | (at_builtin; refine wpList_append_row rfl _ _ rfl (.slice none 0 0) (.slice (some ⟨w5.heap.size, 0, none⟩) 2 2) [] [dig b1, dig b3] rfl (unhide HRw) rfl (unhide HY0) (by simp) ?_
                 intro v3 W3 hR3
                 obtain ⟨p3, q3, rfl⟩ := hR3.own.form
                 have hR3b : Row w5 W3 (.slice p3 2 q3) (outK f 0) := by rw [unhide HO0]; exact hR3
                 have HRo := hide hR3b
                 clear hR3 hR3b))
            clear g1 g1n g2 ed j0 j1 j2 j3 j4 j5 i0 i1 i2 i3 i4 i5 f2 hw5 eb1 eb2 eb3 eB1 eB3 uB1 uB3 HY0 HRw Hd HM3 HR3 HO0
            go_loopw [7, 8] (fun bb ii wr => ∃ (k N2 cv : Nat) (sv : Option Addr), k ≤ 6 ∧ N2 = 2 + 2 * k ∧ bb = .slice sv N2 cv ∧ ii = .int .i64 (k : Int) ∧ Hid (Row w5 wr (.slice sv N2 cv) (outK f k))) (fun _ ii _ => 6 - (intOf ii).toNat)
            case atStart => exact ⟨0, 2, q3, p3, by omega, rfl, rfl, rfl, HRo⟩
            case round =>
              obtain ⟨k, N2, cv, sv, hk, hN2, rfl, rfl, HRk⟩ := hrel
              clear HRo
              by_cases hlt : k < 6
              · have l1 : decide ((k : Int) < 6) = true := by simp; omega
                have l1n : decide (k < 6) = true := by simp; omega
                have k0 : (0 : Int) ≤ (k : Int) := by omega
                have k6 : (k : Int) < 6 := by omega
                obtain ⟨p, hp⟩ : ∃ p, f k = p := ⟨_, rfl⟩
                have hp9 : p ≤ 9999 := by
                  rw [← hp, ← unhide Hf]
                  unfold datF
                  split
                  · omega
                  split
                  · omega
                  split
                  · omega
                  split
                  · omega
                  split <;> omega
                have ck : wr.cell? ⟨M, k, none⟩ = some (.int .i64 (p : Int)) := by
                  refine ((unhide HM5).call (unhide HRk).b).cell k _ ?_
                  rw [← hp, ← unhide Hf]
                  rcases (by omega : k = 0 ∨ k = 1 ∨ k = 2 ∨ k = 3 ∨ k = 4 ∨ k = 5) with rfl | rfl | rfl | rfl | rfl | rfl <;> rfl
                obtain ⟨c1, hc1⟩ : ∃ b, p / 10 = b := ⟨_, rfl⟩
                obtain ⟨c2, hc2⟩ : ∃ b, c1 % 10 = b := ⟨_, rfl⟩
                obtain ⟨c3, hc3⟩ : ∃ b, p % 10 = b := ⟨_, rfl⟩
                obtain ⟨C2, hC2⟩ : ∃ b, 48 + c2 = b := ⟨_, rfl⟩
                obtain ⟨C3, hC3⟩ : ∃ b, 48 + c3 = b := ⟨_, rfl⟩
                have x1 : (p : Int) / 10 = (c1 : Int) := by omega
                have x2 : (c1 : Int) % 10 = (c2 : Int) := by omega
                have x3 : (p : Int) % 10 = (c3 : Int) := by omega
                have x2t : (c1 : Int).tmod 10 = (c2 : Int) := by rw [Int.tmod_eq_emod_of_nonneg (by omega)]; exact x2
                have x3t : (p : Int).tmod 10 = (c3 : Int) := by rw [Int.tmod_eq_emod_of_nonneg (by omega)]; exact x3
                have x1t : (p : Int).tdiv 10 = (c1 : Int) := by rw [Int.tdiv_eq_ediv_of_nonneg (by omega)]; exact x1
                have x4 : (48 : Int) + (c2 : Int) = (C2 : Int) := by omega
                have x5 : (48 : Int) + (c3 : Int) = (C3 : Int) := by omega
                have y1 : IntKind.u8.wrap (C2 : Int) = (C2 : Int) := by rw [IntKind.wrap_u8']; omega
                have y2 : IntKind.u8.wrap (C3 : Int) = (C3 : Int) := by rw [IntKind.wrap_u8']; omega
                have y3 : IntKind.i64.wrap (C2 : Int) = (C2 : Int) := IntWalk.i64_in _ (by omega)
                have y4 : IntKind.i64.wrap (C3 : Int) = (C3 : Int) := IntWalk.i64_in _ (by omega)
                have y5 : IntKind.i64.wrap (c1 : Int) = (c1 : Int) := IntWalk.i64_in _ (by omega)
                have HYk : Hid (BytesAt ((wr.alloc (.cells #[.int .u8 (C2 : Int), .int .u8 (C3 : Int)] 5)).drew) (.slice (some ⟨wr.heap.size, 0, none⟩) 2 2) [dig c2, dig c3]) := by
                  show BytesAt _ _ _
                  rw [← hC2, ← hC3]
                  exact (two_lit wr c2 c3 (by omega) (by omega)).below (Below.refl _ _).drew
                have HRl : Hid (Row w5 ((wr.alloc (.cells #[.int .u8 (C2 : Int), .int .u8 (C3 : Int)] 5)).drew) (.slice sv N2 cv) (outK f k)) := ((unhide HRk).lit _).call (Below.refl _ _).drew
                have HS : Hid (outK f (k + 1) = outK f k ++ [dig c2, dig c3]) := by show _ = _; rw [outK_succ, hp, hc1, hc2, hc3]
                have Hll : Hid ((outK f k).length + [dig c2, dig c3].length ≤ 1073741824) := by show _ ≤ _; rw [outK_len]; simp; omega
                obtain ⟨N3, hN3⟩ : ∃ N3, 2 + 2 * (k + 1) = N3 := ⟨_, rfl⟩
                have HN3 : Hid ((outK f k ++ [dig c2, dig c3]).length = N3) := by show _ = _; rw [List.length_append, outK_len, ← hN3]; simp; omega
                have HN4 := hide hN3
                have HN2 := hide hN2
                clear hp hc1 hc2 hc3 hC2 hC3 HRk hN3 hN2
                go_wp2
                go_region_law (first
                  | (refine step_append_row (wb := w5) rfl _ _ rfl (.slice sv N2 cv) (.slice (some ⟨wr.heap.size, 0, none⟩) 2 2) (outK f k) [dig c2, dig c3] (by simp [Act.eval]) (unhide HRl) (by simp [Act.eval]) (unhide HYk) (unhide Hll) ?_
                     intro v4 W4 hR4 _
                     obtain ⟨p4, q4, rfl⟩ := hR4.own.form
                     rw [unhide HN3] at hR4 ⊢
                     rw [← unhide HS] at hR4
                     have HR4 := hide hR4
                     clear hR4))
                all_goals
                  clear ck
                  go_wp2
                  go_roundw
                  case rel =>
                    first
                      | exact ⟨k + 1, N3, q4, p4, by omega, (unhide HN4).symm, rfl, by go_num, HR4⟩
                      | ((repeat apply Exists.intro); exact ⟨⟨k + 1, N3, q4, p4, by omega, (unhide HN4).symm, rfl, by go_num, HR4⟩, rfl⟩)
                  case measure => simp [intOf]; omega
              · have l1 : decide ((k : Int) < 6) = false := by simp; omega
                have l1n : decide (k < 6) = false := by simp; omega
                obtain rfl : k = 6 := by omega
                obtain rfl : N2 = 14 := by omega
                have HYz : Hid (BytesAt (wr.alloc (.cells #[.int .u8 90] 5)) (.slice (some ⟨wr.heap.size, 0, none⟩) 1 1) [90]) := bytes_new wr [90]
                have HRz := hide ((unhide HRk).lit (.cells #[.int .u8 90] 5))
                have HO6 : Hid (outK f 6 = twos [y / 100, y % 100, m, d, h, mi, s]) := by show _ = _; rw [← unhide Hf]; exact outK_six (by omega) (by omega) (by omega) (by omega) (by omega)
                clear HRk
                go_upto_region 22 with (first
                  | (at_builtin; refine wpList_append_row rfl _ _ rfl (.slice sv 14 cv) (.slice (some ⟨wr.heap.size, 0, none⟩) 1 1) (outK f 6) [90] rfl (unhide HRz) rfl (unhide HYz) (by rw [outK_len]; simp) ?_
                     intro v7 W7 hR7
                     obtain ⟨p7, q7, rfl⟩ := hR7.own.form
                     have h15 : (outK f 6 ++ [90]).length = 15 := by rw [List.length_append, outK_len]; rfl
                     rw [h15] at hR7 ⊢
                     have HR7 := hide hR7
                     clear hR7 h15))
                have hM7 := (unhide HM5).call (unhide HR7).b
                have HR8 := hide ((unhide HR5).call (unhide HR7).b)
                obtain ⟨i0, i1, i2, i3, i4, i5⟩ := six_at hM7
                have Hw5 : Hid (w.heap.size ≤ w5.heap.size ∧ R < w5.heap.size) := ⟨(unhide HR5).b.size, (unhide HR5).lt⟩
                have HTv : Hid (∀ V, V = timeDV T y m d → TimeV (T : Int) 0 V) := fun V hV => Or.inr ⟨by omega, by omega, rfl, y, m, d, by rw [Int.toNat_natCast, unhide Hn]; exact unhide HDt, by rw [Int.toNat_natCast]; exact hV⟩
                clear hM7
                by_cases h50 : y < 2050
                · have s1 : decide ((y : Int) < 2050) = true := by simp; omega
                  have s1n : decide (y < 2050) = true := by simp; omega
                  have HV : Hid (timeDV T y m d = .mk 0 23 false (twos [y % 100, m, d, h, mi, s] ++ [90]) []) := by show _ = _; rw [unhide HTm, if_pos h50]
                  obtain ⟨sx, hsx⟩ : ∃ sx, cutAt p7 q7 2 = sx := ⟨_, rfl⟩
                  have hsl : ∀ W, (Instr.sliceAt 22 (.slice p7 15 q7) (some (.int .i64 2)) none none).run Tryz.prog W = .ok (.slice sx 13 (q7 - 2)) W := fun W => by
                    have := slice_rest p7 15 q7 2 (by omega) W
                    rw [hsx] at this
                    exact this
                  have HBy : Hid (BytesAt W7 (.slice sx 13 (q7 - 2)) (twos [y % 100, m, d, h, mi, s] ++ [90]) ∧ ∀ k, (Value.slice sx 13 (q7 - 2)).ownBlock = some k → w5.heap.size ≤ k) := by
                    have h1 := (unhide HR7).bytes
                    rw [unhide HO6] at h1
                    have hlen : (twos [y / 100, y % 100, m, d, h, mi, s] ++ [90] : Bs).length = 15 := by rw [List.length_append, twos_len]; rfl
                    refine ⟨?_, fun k hk => ?_⟩
                    · have h2 := bytes_rest (b := twos [y / 100, y % 100, m, d, h, mi, s] ++ [90]) (sp := p7) (c := q7) (by rw [hlen]; exact h1) 2 (by rw [hlen]; omega)
                      rw [hlen, hsx] at h2
                      exact h2
                    · have h3 := OwnV.fresh (unhide HR7).own
                      rw [← hsx] at hk
                      unfold cutAt at hk
                      split at hk
                      · cases p7 with
                        | none => simp [Value.ownBlock] at hk
                        | some a => exact h3 k (by simpa [Value.ownBlock] using hk)
                      · cases p7 with
                        | none => simp [Value.ownBlock] at hk
                        | some a =>
                          have hk2 : (a.add 2).block = k := by simpa [Value.ownBlock] using hk
                          have hk3 : a.block = k := hk2
                          exact h3 k (by simpa [Value.ownBlock] using hk3)
                  have H6 : Hid ((#[.int .i64 0, .int .i64 23, .bool false, .slice sx 13 (q7 - 2), .slice none 0 0] : Array Value).all (·.oneCell') = true) := by show _ = true; simp [Value.oneCell']
                  obtain ⟨q8, hq8⟩ : ∃ q8, q7 - 2 = q8 := ⟨_, rfl⟩
                  rw [hq8] at HBy H6
                  simp only [hq8] at hsl
                  clear hsx hq8
                  go_wp2_with (refine wpList_store_row rfl 33 _ _ rfl R _ rfl rfl 33 _ (unhide HR8).res rvalue5 rfl (unhide H6) ?_)
                  refine bodyPost_ret (res_row_tmp Tryz.results20 _ _ R 33 #[.int .i64 0, .int .i64 23, .bool false, .slice sx 13 q8, .slice none 0 0] (0, 0) _ rfl ((unhide HR8).set #[.int .i64 0, .int .i64 23, .bool false, .slice sx 13 q8, .slice none 0 0]).res Tryz.underlying33 rfl rvalue5 _ rfl) rfl ?_
                  have hL := leaf_set (unhide HBy).1 (unhide HBy).2 (unhide Hw5).1 (unhide Hw5).2 #[.int .i64 0, .int .i64 23, .bool false, .slice sx 13 q8, .slice none 0 0] 0 23
                  exact ⟨[.int .i64 0, .int .i64 23, .bool false, .slice sx 13 q8, .slice none 0 0], 0, rfl, .mk 0 23 false (twos [y % 100, m, d, h, mi, s] ++ [90]) [], unhide HTv _ (unhide HV).symm, hL, ((unhide HR8).set #[.int .i64 0, .int .i64 23, .bool false, .slice sx 13 q8, .slice none 0 0]).b⟩
                · have s1 : decide ((y : Int) < 2050) = false := by simp; omega
                  have s1n : decide (y < 2050) = false := by simp; omega
                  have HV : Hid (timeDV T y m d = .mk 0 24 false (twos [y / 100, y % 100, m, d, h, mi, s] ++ [90]) []) := by show _ = _; rw [unhide HTm, if_neg h50]
                  have HBy : Hid (BytesAt W7 (.slice p7 15 q7) (twos [y / 100, y % 100, m, d, h, mi, s] ++ [90]) ∧ ∀ k, (Value.slice p7 15 q7).ownBlock = some k → w5.heap.size ≤ k) := by
                    have h1 := (unhide HR7).bytes
                    rw [unhide HO6] at h1
                    exact ⟨h1, OwnV.fresh (unhide HR7).own⟩
                  have H6 : Hid ((#[.int .i64 0, .int .i64 24, .bool false, .slice p7 15 q7, .slice none 0 0] : Array Value).all (·.oneCell') = true) := by show _ = true; simp [Value.oneCell']
                  go_wp2_with (refine wpList_store_row rfl 33 _ _ rfl R _ rfl rfl 33 _ (unhide HR8).res rvalue5 rfl (unhide H6) ?_)
                  refine bodyPost_ret (res_row_tmp Tryz.results20 _ _ R 33 #[.int .i64 0, .int .i64 24, .bool false, .slice p7 15 q7, .slice none 0 0] (0, 0) _ rfl ((unhide HR8).set #[.int .i64 0, .int .i64 24, .bool false, .slice p7 15 q7, .slice none 0 0]).res Tryz.underlying33 rfl rvalue5 _ rfl) rfl ?_
                  have hL := leaf_set (unhide HBy).1 (unhide HBy).2 (unhide Hw5).1 (unhide Hw5).2 #[.int .i64 0, .int .i64 24, .bool false, .slice p7 15 q7, .slice none 0 0] 0 24
                  exact ⟨[.int .i64 0, .int .i64 24, .bool false, .slice p7 15 q7, .slice none 0 0], 0, rfl, .mk 0 24 false (twos [y / 100, y % 100, m, d, h, mi, s] ++ [90]) [], unhide HTv _ (unhide HV).symm, hL, ((unhide HR8).set #[.int .i64 0, .int .i64 24, .bool false, .slice p7 15 q7, .slice none 0 0]).b⟩
    · obtain ⟨E, hE⟩ : ∃ E, D - N = E := ⟨_, rfl⟩
      have eE : (D : Int) - (N : Int) = (E : Int) := by omega
      obtain ⟨hz9, hzE⟩ := year_more hy0 (unhide HY) (by rw [unhide HN]; omega) bn
      rw [unhide HN, hz, hE] at hzE
      rw [hz] at hz9
      have HM3 : Hid (Blk w (wr.setCell ⟨M, 0, none⟩ (.int .i64 (z : Int))) M #[.int .i64 (z : Int), .int .i64 ((1 : Nat) : Int), .int .i64 ((1 : Nat) : Int), .int .i64 (h : Int), .int .i64 (mi : Int), .int .i64 (s : Int)] 94) := Blk.put (cs := [.int .i64 (y : Int), .int .i64 ((1 : Nat) : Int), .int .i64 ((1 : Nat) : Int), .int .i64 (h : Int), .int .i64 (mi : Int), .int .i64 (s : Int)]) (unhide HM) 0 (by simp) _
      have HR3 : Hid (Blk w (wr.setCell ⟨M, 0, none⟩ (.int .i64 (z : Int))) R #[.int .i64 0, .int .i64 0, .bool false, .slice none 0 0, .slice none 0 0] 33) := blk_kept (unhide HR) (unhide HMg) (unhide HRM) 0 _
      have HzE := hide hzE
      have hEd : E < D := by omega
      have hz0 : 1970 ≤ z := by omega
      cases A with
      | true =>
        obtain rfl : 366 = N := by simpa using hN
        have eE3 : (D : Int) - 366 = (E : Int) := by omega
        clear hA hN hN2 hzE hE HY HN hz eE
        go_wp2_with fail
        refine (unhide Hl).mono ?_
        rintro e w3 ⟨rfl, hw⟩
        obtain rfl := hw
        go_wp2
        go_roundw
        case rel =>
          first
            | exact ⟨z, E, hz0, hz9, by omega, rfl, HzE, HR3, HM3⟩
            | ((repeat apply Exists.intro); exact ⟨⟨z, E, hz0, hz9, by omega, rfl, HzE, HR3, HM3⟩, rfl⟩)
        case measure => simp [intOf]; omega
      | false =>
        obtain rfl : 365 = N := by simpa using hN
        have eE3 : (D : Int) - 365 = (E : Int) := by omega
        clear hA hN hN2 hzE hE HY HN hz eE
        go_wp2_with fail
        refine (unhide Hl).mono ?_
        rintro e w3 ⟨rfl, hw⟩
        obtain rfl := hw
        go_wp2
        go_roundw
        case rel =>
          first
            | exact ⟨z, E, hz0, hz9, by omega, rfl, HzE, HR3, HM3⟩
            | ((repeat apply Exists.intro); exact ⟨⟨z, E, hz0, hz9, by omega, rfl, HzE, HR3, HM3⟩, rfl⟩)
        case measure => simp [intOf]; omega
end Q
end Go.Proofs.YtcofnockikninaaGreatDoor
