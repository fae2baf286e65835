/-
  The walks of the landed isKind, isMask, isAddress.
-/
import Derived.Test.YtcofnockikninabGreatDoorN1
import Derived.Test.YtcofnockikninabGreatDoorPF
namespace Go.Proofs.YtcofnockikninabGreatDoor
open Go.RowKit
namespace N
open K
set_option maxHeartbeats 2000000 in
theorem iskind_c (w : World) (k : Int) : Calls Tryz.prog 17 #[.int .i64 k] w fun e w' => e = .returned (.bool (kindP k)) ∧ w' = w := by
  obtain ⟨A, hA⟩ : ∃ A, decide (k = 1) = A := ⟨_, rfl⟩
  obtain ⟨B, hB⟩ : ∃ B, decide (k = 2) = B := ⟨_, rfl⟩
  obtain ⟨C, hC⟩ : ∃ C, decide (k = 4) = C := ⟨_, rfl⟩
  obtain ⟨D, hD⟩ : ∃ D, decide (k = 6) = D := ⟨_, rfl⟩
  obtain ⟨E, hE⟩ : ∃ E, decide (k = 7) = E := ⟨_, rfl⟩
  have HT : Hid (kindP k = (A || B || C || D || E)) := by show _ = _; unfold kindP; rw [hA, hB, hC, hD, hE]
  have key : ∀ (n : Int) (b : Bool), decide (k = n) = b → (k == n) = b := fun n b h => by rw [← h]; by_cases h2 : k = n <;> simp [h2]
  have a1 := key 1 A hA
  have b1 := key 2 B hB
  have c1 := key 4 C hC
  have d1 := key 6 D hD
  have e1 := key 7 E hE
  clear hA hB hC hD hE key
  cases A
  · cases B
    · cases C
      · cases D
        · cases E <;> (go_enter Tryz.func17, Tryz.ntmps17; go_wp2; go_ret; exact ⟨by rw [unhide HT]; rfl, rfl⟩)
        · go_enter Tryz.func17, Tryz.ntmps17
          go_wp2
          go_ret
          exact ⟨by rw [unhide HT]; rfl, rfl⟩
      · go_enter Tryz.func17, Tryz.ntmps17
        go_wp2
        go_ret
        exact ⟨by rw [unhide HT]; rfl, rfl⟩
    · go_enter Tryz.func17, Tryz.ntmps17
      go_wp2
      go_ret
      exact ⟨by rw [unhide HT]; rfl, rfl⟩
  · go_enter Tryz.func17, Tryz.ntmps17
    go_wp2
    go_ret
    exact ⟨by rw [unhide HT]; rfl, rfl⟩
theorem shr_and (p k : Nat) (hp : p < 256) : bits .and .u8 ((p / 2 ^ k : Nat) : Int) 1 = ((p / 2 ^ k % 2 : Nat) : Int) := by
  have h : p / 2 ^ k < 256 := Nat.lt_of_le_of_lt (Nat.div_le_self _ _) hp
  have key : ∀ x : Fin 256, bits .and .u8 ((x.val : Nat) : Int) 1 = ((x.val % 2 : Nat) : Int) := by decide +kernel
  exact key ⟨_, h⟩
set_option maxRecDepth 100000 in
set_option maxHeartbeats 4000000 in
theorem ismask_c (w : World) (s : ByteArray) (hs : s.size ≤ 1000000) : Calls Tryz.prog 57 #[.string s] w fun e w' => e = .returned (.bool (maskP (bs s))) ∧ w' = w := by
  obtain ⟨N, hN⟩ : ∃ N, s.size = N := ⟨_, rfl⟩
  obtain ⟨L, hL⟩ : ∃ L, 8 * N = L := ⟨_, rfl⟩
  have eL : (8 : Int) * (N : Int) = (L : Int) := by omega
  have HL : Hid (maskP (bs s) = maskTo (bs s) L) := by show _ = _; unfold maskP; rw [bs_len, hN, hL]
  have hb0 : N ≤ 1000000 := by omega
  have HN := hide hN
  have hLN := hide hL
  have hL2 : L ≤ 8000000 := by omega
  clear hL hs
  go_enter Tryz.func57, Tryz.ntmps57
  go_wp2
  clear hN
  go_loopw [3, 9] (fun ee ii wr => ∃ (k : Nat) (u : Bool), k ≤ L ∧ ee = .bool u ∧ ii = .int .i64 (k : Int) ∧ wr = w ∧ Hid (maskTo (bs s) k = true) ∧ Hid (u = (!decide (k = 0) && !bitAt (bs s) (k - 1)))) (fun _ ii _ => L - (intOf ii).toNat)
  case atStart => exact ⟨0, false, by omega, rfl, rfl, rfl, rfl, rfl⟩
  case round =>
    obtain ⟨k, u, hk, rfl, rfl, hwr, HM, HU⟩ := hrel
    have := hwr.symm
    subst this
    by_cases hlt : k < L
    · have f1 : decide ((k : Int) < (L : Int)) = true := by simp; omega
      have f1n : decide (k < L) = true := by simp; omega
      obtain ⟨q, hq⟩ : ∃ q, k / 8 = q := ⟨_, rfl⟩
      obtain ⟨r, hr⟩ : ∃ r, k % 8 = r := ⟨_, rfl⟩
      obtain ⟨t, ht⟩ : ∃ t, 7 - r = t := ⟨_, rfl⟩
      have eq : (k : Int) / 8 = (q : Int) := by omega
      have er : (k : Int) % 8 = (r : Int) := by omega
      have et : (7 : Int) - (r : Int) = (t : Int) := by omega
      have hqN : q < s.size := by have := unhide HN; have := unhide hLN; omega
      obtain ⟨p, hp⟩ : ∃ p, ((bs s).getD q 0).toNat = p := ⟨_, rfl⟩
      have hp2 : p < 256 := by rw [← hp]; exact ((bs s).getD q 0).toNat_lt
      have ix : ∀ w, (Instr.index 9 (.string s) (.int .i64 (q : Int))).run Tryz.prog w = .ok (.int .u8 (p : Int)) w := fun w => index_str s q hqN p hp w
      obtain ⟨z, hz⟩ : ∃ z, p / 2 ^ t = z := ⟨_, rfl⟩
      have ez : (p : Int) / 2 ^ t = (z : Int) := by rw [← hz]; simp
      have uz : IntKind.u8.wrap (z : Int) = (z : Int) := by rw [IntKind.wrap_u8']; have : z ≤ p := by rw [← hz]; exact Nat.div_le_self _ _
                                                            omega
      obtain ⟨y, hy⟩ : ∃ y, z % 2 = y := ⟨_, rfl⟩
      have hand : bits .and .u8 (z : Int) 1 = (y : Int) := by rw [← hy, ← hz]; exact shr_and p t hp2
      obtain ⟨o, ho⟩ : ∃ o, bitAt (bs s) k = o := ⟨_, rfl⟩
      have hyo : ((y : Int) == 1) = o := by
        rw [← ho]
        unfold bitAt
        rw [hq, hr, ht, hp, hz, hy]
        by_cases h1 : y = 1 <;> simp [h1] <;> omega
      have HS : Hid (maskTo (bs s) (k + 1) = !(o && u)) := by
        show _ = _
        rw [maskTo_succ, unhide HM, unhide HU, ho]
        cases decide (k = 0) <;> cases o <;> cases bitAt (bs s) (k - 1) <;> rfl
      have HU2 : Hid ((!o) = (!decide (k + 1 = 0) && !bitAt (bs s) (k + 1 - 1))) := by
        show _ = _
        rw [Nat.add_sub_cancel, ho]
        simp
      clear hq hr ht hp hz hy ho HM HU
      cases o with
      | false =>
        have HS2 : Hid (maskTo (bs s) (k + 1) = true) := by show _ = _; rw [unhide HS]; rfl
        have HU3 : Hid (true = (!decide (k + 1 = 0) && !bitAt (bs s) (k + 1 - 1))) := unhide HU2
        go_wp2
        go_roundw
        case rel =>
          first
            | exact ⟨k + 1, true, by omega, rfl, by go_num, rfl, HS2, HU3⟩
            | exact ⟨k + 1, true, by omega, rfl, by go_num, trivial, HS2, HU3⟩
            | ((repeat apply Exists.intro); exact ⟨⟨k + 1, true, by omega, rfl, by go_num, rfl, HS2, HU3⟩, rfl⟩)
        case measure => simp [intOf]; omega
      | true =>
        cases u with
        | true =>
          have HF : Hid (maskP (bs s) = false) := by
            show _ = _
            rw [unhide HL]
            exact maskTo_no (n := k + 1) (by omega) (by rw [unhide HS]; rfl)
          go_wp2
          go_ret
          exact ⟨by rw [unhide HF]; rfl, rfl⟩
        | false =>
          have HS2 : Hid (maskTo (bs s) (k + 1) = true) := by show _ = _; rw [unhide HS]; rfl
          have HU3 : Hid (false = (!decide (k + 1 = 0) && !bitAt (bs s) (k + 1 - 1))) := unhide HU2
          go_wp2
          go_roundw
          case rel =>
            first
              | exact ⟨k + 1, false, by omega, rfl, by go_num, rfl, HS2, HU3⟩
              | exact ⟨k + 1, false, by omega, rfl, by go_num, trivial, HS2, HU3⟩
              | ((repeat apply Exists.intro); exact ⟨⟨k + 1, false, by omega, rfl, by go_num, rfl, HS2, HU3⟩, rfl⟩)
          case measure => simp [intOf]; omega
    · have f1 : decide ((k : Int) < (L : Int)) = false := by simp; omega
      have f1n : decide (k < L) = false := by simp; omega
      have HF : Hid (maskP (bs s) = true) := by
        show _ = _
        rw [unhide HL]
        have : k = L := by omega
        rw [← this]
        exact unhide HM
      clear HM HU
      go_wp2
      go_ret
      exact ⟨by rw [unhide HF]; rfl, rfl⟩
end N
end Go.Proofs.YtcofnockikninabGreatDoor
/-
  Names in memory; the walks of the landed isAddress, isNamed.
-/
namespace Go.Proofs.YtcofnockikninabGreatDoor
open Go.RowKit
/-- A DN in memory: a row of pairs of texts. -/
def DnAt (w : World) (x : Value) (d : List (Bs × Bs)) : Prop :=
  ∃ sp c, x = .slice sp d.length c ∧ d.length ≤ c ∧ (sp = none → c = 0) ∧ (d ≠ [] → ∃ b o, sp = some ⟨b, o, none⟩ ∧ ∀ i a, d[i]? = some a → w.cell? ⟨b, o + i * 2, none⟩ = some (.string (N.st a.1)) ∧ w.cell? ⟨b, o + i * 2 + 1, none⟩ = some (.string (N.st a.2)))
theorem DnAt.below {a b : World} {x : Value} {d : List (Bs × Bs)} (h : DnAt a x d) (hb : Below a.heap.size a b) : DnAt b x d := by
  obtain ⟨sp, c, rfl, h1, h2, h3⟩ := h
  refine ⟨sp, c, rfl, h1, h2, fun hd => ?_⟩
  obtain ⟨bb, o, e, hc⟩ := h3 hd
  refine ⟨bb, o, e, fun i a hi => ?_⟩
  obtain ⟨k1, k2⟩ := hc i a hi
  exact ⟨by rw [hb.cell (World.block_lt_of_cell? _ _ k1)]; exact k1, by rw [hb.cell (World.block_lt_of_cell? _ _ k2)]; exact k2⟩
theorem dn_nil (w : World) : DnAt w (.slice none 0 0) [] := ⟨none, 0, rfl, Nat.le_refl _, fun _ => rfl, fun h => absurd rfl h⟩
/-- The three cells of a name. -/
def gcells (k : Int) (s : ByteArray) (x : Value) : List Value := [.int .i64 k, .string s, x]
structure GenAt (w : World) (cs : List Value) (g : Gen) : Prop where
  form : ∃ s sp c, cs = gcells g.kind s (.slice sp g.dir.length c) ∧ N.bs s = g.text ∧ DnAt w (.slice sp g.dir.length c) g.dir
theorem GenAt.below {a b : World} {cs : List Value} {g : Gen} (h : GenAt a cs g) (hb : Below a.heap.size a b) : GenAt b cs g := by
  obtain ⟨s, sp, c, e, e2, hd⟩ := h.form
  exact ⟨s, sp, c, e, e2, hd.below hb⟩
namespace N
open K
theorem extract_str (s : ByteArray) (k N : Nat) (hN : s.size = N) : s.extract k N = st ((bs s).drop k) := by
  rw [← hN, ← st_bs (s.extract k s.size)]
  congr 1
  exact Lib.extract_to_end s k
theorem extract_front (s : ByteArray) (k : Nat) : s.extract 0 k = st ((bs s).take k) := by
  rw [← st_bs (s.extract 0 k)]
  congr 1
  exact Lib.extract_from_zero s k
theorem slice_str (s : ByteArray) (k : Nat) (hk : k ≤ s.size) (w : World) : (Instr.sliceAt 9 (.string s) (some (.int .i64 (k : Int))) none none).run Tryz.prog w = .ok (.string (st ((bs s).drop k))) w := by
  rw [run_sliceAt_string w 9 _ _ _ _ Tryz.underlying9, run_slice_string_l w 9 s Tryz.underlying9 .i64 (k : Int) (by omega) (by omega), Int.toNat_natCast]
  have e : s.extract k s.size = st ((bs s).drop k) := by
    rw [← st_bs (s.extract k s.size)]
    congr 1
    exact Lib.extract_to_end s k
  rw [e]
set_option maxRecDepth 100000 in
set_option maxHeartbeats 4000000 in
theorem isaddr_c (w : World) (s : ByteArray) (limit : Bool) (hs : s.size ≤ 1000000000) : Calls Tryz.prog 34 #[.string s, .bool limit] w fun e w' => e = .returned (.bool (addrP limit (bs s))) ∧ w' = w := by
  obtain ⟨N, hN⟩ : ∃ N, s.size = N := ⟨_, rfl⟩
  have hlen : (bs s).length = N := by rw [bs_len, hN]
  cases limit with
  | false =>
    obtain ⟨A, hA⟩ : ∃ A, decide (N = 4) = A := ⟨_, rfl⟩
    obtain ⟨B, hB⟩ : ∃ B, decide (N = 16) = B := ⟨_, rfl⟩
    have a1 : ((N : Int) == 4) = A := by rw [← hA]; by_cases h : N = 4 <;> simp [h] <;> omega
    have b1 : ((N : Int) == 16) = B := by rw [← hB]; by_cases h : N = 16 <;> simp [h] <;> omega
    have HT : Hid (addrP false (bs s) = (A || B)) := by show _ = _; unfold addrP; rw [if_pos rfl, hlen, hA, hB]
    clear hA hB hlen hs
    cases A <;> cases B <;> (go_enter Tryz.func34, Tryz.ntmps34; go_wp2; go_ret; exact ⟨by rw [unhide HT]; rfl, rfl⟩)
  | true =>
    by_cases h8 : N = 8 ∨ N = 32
    · obtain ⟨H, hH⟩ : ∃ H, N / 2 = H := ⟨_, rfl⟩
      have eH : (N : Int) / 2 = (H : Int) := by omega
      have hex := extract_str s H N hN
      obtain ⟨m, hm⟩ : ∃ m, st ((bs s).drop H) = m := ⟨_, rfl⟩
      rw [hm] at hex
      have bH : (H : Int) ≤ (N : Int) := by omega
      have bHn : H ≤ N := by omega
      have bN : N ≤ 1000000000 := by omega
      have bH2 : (H : Int) ≤ 1000000000 := by omega
      have Hmk := hide (ismask_c w m (by rw [← hm, st_size, List.length_drop]; omega))
      have HT : Hid (addrP true (bs s) = maskP (bs m)) := by
        show _ = _
        unfold addrP
        have e8 : (decide (N = 8) || decide (N = 32)) = true := by rcases h8 with h | h <;> simp [h]
        rw [if_neg (by simp), hlen, hH, ← hm, bs_st, e8, Bool.true_and]
      have a1 : ((N : Int) == 8) = decide (N = 8) := by by_cases h : N = 8 <;> simp [h] <;> omega
      have b1 : ((N : Int) == 32) = decide (N = 32) := by by_cases h : N = 32 <;> simp [h] <;> omega
      obtain ⟨A, hA⟩ : ∃ A, decide (N = 8) = A := ⟨_, rfl⟩
      obtain ⟨B, hB⟩ : ∃ B, decide (N = 32) = B := ⟨_, rfl⟩
      have hAB : A = false → B = true := fun h => by
        rw [h] at hA
        rw [← hB]
        exact decide_eq_true (h8.resolve_left (of_decide_eq_false hA))
      rw [hA] at a1
      rw [hB] at b1
      clear hm hH hlen hs hA hB h8
      cases A with
      | true =>
        clear hAB
        go_enter Tryz.func34, Tryz.ntmps34
        go_wp2_with (go_at_call 57; refine (unhide Hmk).mono ?_; rintro e w' ⟨rfl, hw⟩; obtain rfl := hw)
        go_ret
        exact ⟨by rw [unhide HT]; rfl, rfl⟩
      | false =>
        have := hAB rfl
        subst this
        clear hAB
        go_enter Tryz.func34, Tryz.ntmps34
        go_wp2_with (go_at_call 57; refine (unhide Hmk).mono ?_; rintro e w' ⟨rfl, hw⟩; obtain rfl := hw)
        go_ret
        exact ⟨by rw [unhide HT]; rfl, rfl⟩
    · have a1 : ((N : Int) == 8) = false := by simp; omega
      have b1 : ((N : Int) == 32) = false := by simp; omega
      have HT : Hid (addrP true (bs s) = false) := by
        show _ = _
        unfold addrP
        rw [if_neg (by simp), hlen, decide_eq_false (fun h => h8 (Or.inl h)), decide_eq_false (fun h => h8 (Or.inr h))]
        rfl
      clear h8 hlen hs
      go_enter Tryz.func34, Tryz.ntmps34
      go_wp2
      go_ret
      exact ⟨by rw [unhide HT]; rfl, rfl⟩
theorem questAsc : Quest 36 (fun r => decide (r < 128)) := ⟨enters_of Tryz.func36 (by kernel_rfl) rfl, fun r w h => isasc_c r h w, fun r h => decide_eq_false (by omega)⟩
theorem questPrn : Quest 61 prnN := ⟨enters_of Tryz.func61 (by kernel_rfl) rfl, fun r w h => isprint_c r h w, fun r h => by unfold prnN; rw [decide_eq_false (by omega)]; rfl⟩
theorem questLab : Quest 68 labN := ⟨enters_of Tryz.func68 (by kernel_rfl) rfl, fun r w h => maylabel_c r h w, fun r h => by
  unfold labN digN capN
  rw [decide_eq_false (show ¬ r ≤ 57 by omega), decide_eq_false (show ¬ r ≤ 90 by omega), decide_eq_false (show ¬ r ≤ 122 by omega), decide_eq_false (show ¬ r = 45 by omega)]
  simp⟩
end N
end Go.Proofs.YtcofnockikninabGreatDoor
/-
  The walk of the landed isNamed.
-/
namespace Go.Proofs.YtcofnockikninabGreatDoor
open Go.RowKit
namespace N
open K
theorem nil_str (s : ByteArray) : (s.toList == ([] : Bs)) = decide (bs s = []) := by
  rw [toList_bs]
  by_cases h : bs s = []
  · rw [decide_eq_true h]; simp [h]
  · rw [decide_eq_false h]; simpa using h
theorem three_at {w0 wr : World} {A : Nat} {a b c : Value} {T : TypeId} (h : Blk w0 wr A #[a, b, c] T) : wr.cell? ⟨A, 0, none⟩ = some a ∧ wr.cell? ⟨A, 1, none⟩ = some b ∧ wr.cell? ⟨A, 2, none⟩ = some c :=
  ⟨h.cell 0 _ rfl, h.cell 1 _ rfl, h.cell 2 _ rfl⟩
set_option maxRecDepth 100000 in
set_option maxHeartbeats 4000000 in
theorem isnamed_c (w : World) (g : Gen) (s : ByteArray) (sp : Option Addr) (n c : Nat) (limit : Bool) (hs : s.size ≤ 1000000000) (ht : bs s = g.text) (hd : g.dir.length = n) (hn : n ≤ 1000000000) :
    Calls Tryz.prog 18 #[.agg #[.int .i64 g.kind, .string s, .slice sp n c], .bool limit] w fun e w' => e = .returned (.bool (namedP g limit)) ∧ Below w.heap.size w w' := by
  obtain ⟨k, hk⟩ : ∃ k, g.kind = k := ⟨_, rfl⟩
  have hA := Blk.new (Below.refl w.heap.size w) #[.int .i64 k, .string s, .slice sp n c] 28
  obtain ⟨w1, hw1⟩ : ∃ w1, w.alloc (.cells #[.int .i64 k, .string s, .slice sp n c] 28) = w1 := ⟨_, rfl⟩
  obtain ⟨X, eX⟩ : ∃ X, w.heap.size = X := ⟨_, rfl⟩
  rw [hw1, eX] at hA
  obtain ⟨k0, k1, k2⟩ := three_at hA
  have HA := hide hA
  rw [hk]
  by_cases h4 : k = 4
  · have HT : Hid (namedP g limit = (limit || decide (0 < n))) := by show _ = _; unfold namedP; rw [hk, if_pos h4, hd]
    subst h4
    obtain ⟨B, hB⟩ : ∃ B, decide (0 < n) = B := ⟨_, rfl⟩
    have b1 : decide ((0 : Int) < (n : Int)) = B := by rw [← hB, decide_eq_decide]; omega
    rw [hB] at HT
    clear hA hk hd ht
    cases limit <;> cases B <;>
      (go_enter Tryz.func18, Tryz.ntmps18
       go_wp2
       go_ret
       exact ⟨by rw [unhide HT]; rfl, (unhide HA).b⟩)
  by_cases h7 : k = 7
  · have HT : Hid (namedP g limit = addrP limit (bs s)) := by show _ = _; unfold namedP; rw [hk, if_neg h4, if_pos h7, ht]
    subst h7
    have Had := hide (isaddr_c w1 s limit hs)
    clear hA hk hd ht h4
    go_enter Tryz.func18, Tryz.ntmps18
    go_wp2_with fail
    refine (unhide Had).mono ?_
    rintro e w2 ⟨rfl, hw⟩
    obtain rfl := hw
    go_wp2
    go_ret
    exact ⟨by rw [unhide HT]; rfl, (unhide HA).b⟩
  · have d4 : (k == 4) = false := by simpa using h4
    have d7 : (k == 7) = false := by simpa using h7
    obtain ⟨N, hN⟩ : ∃ N, s.size = N := ⟨_, rfl⟩
    obtain ⟨E, hE⟩ : ∃ E, decide (bs s = []) = E := ⟨_, rfl⟩
    obtain ⟨L, hL⟩ : ∃ L, decide (N ≤ 64) = L := ⟨_, rfl⟩
    obtain ⟨V, hV⟩ : ∃ V, ascP (bs s) = V := ⟨_, rfl⟩
    have HT : Hid (namedP g limit = ((limit || !E) && L && V)) := by
      show _ = _
      unfold namedP
      rw [hk, if_neg h4, if_neg h7, ← ht, hE, bs_len, hN, hL, hV]
    have he : (s.toList == ([] : Bs)) = E := by rw [nil_str, hE]
    have hl : decide ((N : Int) ≤ 64) = L := by rw [← hL, decide_eq_decide]; omega
    have Hev := hide (every_c 36 _ questAsc s hs w1)
    rw [show ((bs s).all fun c => decide (c.toNat < 128)) = V from hV] at Hev
    have bN : N ≤ 1000000000 := by omega
    clear hA hk hd ht hE hV h4 h7
    cases limit <;> cases E <;> cases L <;>
      first
      | (go_enter Tryz.func18, Tryz.ntmps18
         go_wp2_with fail
         refine (unhide Hev).mono ?_
         rintro e w2 ⟨rfl, hb⟩
         have HA2 := hide ((unhide HA).call hb)
         clear hb k0 k1 k2 HA
         go_wp2
         go_ret
         exact ⟨by rw [unhide HT]; cases V <;> rfl, (unhide HA2).b⟩)
      | (go_enter Tryz.func18, Tryz.ntmps18
         go_wp2
         go_ret
         exact ⟨by rw [unhide HT]; rfl, (unhide HA).b⟩)
end N
end Go.Proofs.YtcofnockikninabGreatDoor
