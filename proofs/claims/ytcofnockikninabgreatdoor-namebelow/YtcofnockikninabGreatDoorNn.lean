/-
  The walk of the landed General.Value, of the kinds other than 4.
-/
import Derived.Test.YtcofnockikninabGreatDoorPB
import Derived.Test.YtcofnockikninabGreatDoorPE
import Derived.Deep.Cut
namespace Go.Proofs.YtcofnockikninabGreatDoor
open Go.RowKit
theorem bytes_of_text (w : World) (S : ByteArray) : BytesAt (w.drew.alloc (.cells (bytesRow S (grownCap w S.size 0 5)) 5 ((bytesRow S (grownCap w S.size 0 5)).size, (bytesRow S (grownCap w S.size 0 5)).size + 1))) (.slice (some ⟨w.heap.size, 0, none⟩) S.size (grownCap w S.size 0 5)) S.data.toList := by
  have hlen : S.data.toList.length = S.size := by rw [Array.length_toList]; rfl
  have hge := grownCap_ge w S.size 0 5
  refine ⟨_, _, by rw [List.length_map, hlen], by rw [List.length_map, hlen]; exact hge, fun e => (by cases e), fun _ => ⟨w.heap.size, 0, rfl, fun j v hv => ?_⟩⟩
  have hj : j < S.data.size := by have := (List.getElem?_eq_some_iff.1 hv).1; simpa using this
  rw [Nat.zero_add]
  have h1 := World.cell?_alloc_mark w.drew (bytesRow S (grownCap w S.size 0 5)) 5 ((bytesRow S (grownCap w S.size 0 5)).size, (bytesRow S (grownCap w S.size 0 5)).size + 1) j
  have h2 := bytesRow_at S (grownCap w S.size 0 5) j hj
  have h3 : (S.data.toList.map bv)[j]? = some (.int .u8 (S.data[j].toNat : Int)) := by
    rw [List.getElem?_map, Array.getElem?_toList, Array.getElem?_eq_getElem hj]
    rfl
  rw [h3] at hv
  rw [← hv, ← h2]
  exact h1
namespace N
open K
/-- []byte(s). -/
theorem conv_bytes (w : World) (s : ByteArray) : ∃ (cp : Nat) (wb : World), (convert 9 22 (.string s)).run Tryz.prog w = .ok (.slice (some ⟨w.heap.size, 0, none⟩) s.size cp) wb ∧ BytesAt wb (.slice (some ⟨w.heap.size, 0, none⟩) s.size cp) (bs s) ∧ Below w.heap.size w wb :=
  ⟨_, _, run_bytes_of_string (P := Tryz.prog) w 9 22 5 s Tryz.underlying9 Tryz.underlying22 Tryz.underlying5, bytes_of_text w s, (Below.refl w.heap.size w).drew.alloc (Nat.le_refl _) _⟩
/-- A value of bytes in new memory. -/
theorem leaf_at {w : World} {B b0 : Nat} {c : Nat} {l : Bs} (k t : Int) (h : BytesAt w (.slice (some ⟨b0, 0, none⟩) l.length c) l) (hB : B ≤ b0) (hl : l.length ≤ 9223372036854775807) : ValAt (fun j => B ≤ j) w [.int .i64 k, .int .i64 t, .bool false, .slice (some ⟨b0, 0, none⟩) l.length c, .slice none 0 0] (.mk k t false l []) :=
  ⟨1, _, none, 0, rfl, h, fun _ j hj => by simp [Value.ownBlock] at hj; omega, ⟨by simpa [DV.bytes] using hl, by simp [DV.kids]⟩, by simp [DV.kids], fun _ => rfl, fun h => absurd rfl h⟩
theorem bytes_setRow {w : World} {b0 c n : Nat} {l : Bs} (h : BytesAt w (.slice (some ⟨b0, 0, none⟩) n c) l) (R : Nat) (hR : R ≠ b0) (cs : Array Value) : BytesAt (w.setRow R cs) (.slice (some ⟨b0, 0, none⟩) n c) l := by
  obtain ⟨sp, c', e, h1, h2, h3⟩ := h
  simp only [Value.slice.injEq] at e
  obtain ⟨rfl, e2, rfl⟩ := e
  refine ⟨_, _, by rw [e2], h1, h2, fun hne => ?_⟩
  obtain ⟨b, o, e3, hr⟩ := h3 hne
  refine ⟨b, o, e3, fun j v hv => ?_⟩
  have h5 := hr j v hv
  simp only [Option.some.injEq, Addr.mk.injEq] at e3
  have hb : (w.setRow R cs).heap[b]? = w.heap[b]? := by
    simp only [World.setRow]
    rw [Array.getElem?_modify, if_neg (by omega)]
  rw [World.cell?_of_block hb]
  exact h5
set_option maxRecDepth 100000 in
set_option maxHeartbeats 8000000 in
theorem genv_c (dn : List (Bs × Bs) → Told DV) (w : World) (cs : List Value) (g : Gen) (limit : Bool) (hg : GenAt w cs g) (ht : g.text.length ≤ 1000000000) (hdl : g.dir.length ≤ 1000000000) (h4 : g.kind ≠ 4) :
    Calls Tryz.prog 8 #[.agg cs.toArray, .bool limit] w fun e w' => ∃ ds : List Value, e = .returned (.tuple #[.agg ds.toArray, .int .i64 (errOf (genV dn g limit) : Int)]) ∧ ValAt (fun k => w.heap.size ≤ k) w' ds (valOf (genV dn g limit)) ∧ Below w.heap.size w w' := by
  obtain ⟨s, sp, c, rfl, hst, hdn⟩ := hg.form
  obtain ⟨k, hk⟩ : ∃ k, g.kind = k := ⟨_, rfl⟩
  obtain ⟨n, hn⟩ : ∃ n, g.dir.length = n := ⟨_, rfl⟩
  have hs : s.size ≤ 1000000000 := by rw [← bs_len, hst]; exact ht
  have HNm : Hid (∀ wr : World, Calls Tryz.prog 18 #[.agg #[.int .i64 k, .string s, .slice sp n c], .bool limit] wr fun e w' => e = .returned (.bool (namedP g limit)) ∧ Below wr.heap.size wr w') := fun wr => by
    have := isnamed_c wr g s sp n c limit hs hst hn (by omega)
    rw [hk] at this
    exact this
  rw [hk, hn]
  have hA := Blk.new (Below.refl w.heap.size w) #[.int .i64 k, .string s, .slice sp n c] 28
  obtain ⟨w1, hw1⟩ : ∃ w1, w.alloc (.cells #[.int .i64 k, .string s, .slice sp n c] 28) = w1 := ⟨_, rfl⟩
  obtain ⟨X, eX⟩ : ∃ X, w.heap.size = X := ⟨_, rfl⟩
  rw [hw1, eX] at hA
  have hR0 := Blk.new hA.b #[.int .i64 0, .int .i64 0, .bool false, .slice none 0 0, .slice none 0 0] 36
  have hA1 := hA.lit (.cells #[.int .i64 0, .int .i64 0, .bool false, .slice none 0 0, .slice none 0 0] 36)
  obtain ⟨w2, hw2⟩ : ∃ w2, w1.alloc (.cells #[.int .i64 0, .int .i64 0, .bool false, .slice none 0 0, .slice none 0 0] 36) = w2 := ⟨_, rfl⟩
  obtain ⟨R, eR⟩ : ∃ R, w1.heap.size = R := ⟨_, rfl⟩
  rw [hw2, eR] at hR0
  rw [hw2] at hA1
  obtain ⟨k0, k1, k2⟩ := three_at hA1
  have HA := hide hA1
  have HR := hide hR0
  have Hk := hide (iskind_c w2 k)
  have d4 : (k == 4) = false := by rw [hk] at h4; simpa using h4
  have d4' : (k != 4) = true := by rw [hk] at h4; simpa using h4
  have H5 : Hid ((#[.int .i64 0, .int .i64 0, .bool false, .slice none 0 0, .slice none 0 0] : Array Value).all (·.oneCell') = true) := by show _ = true; simp [Value.oneCell']
  unfold gcells
  by_cases hf : formG g = false
  · have HE : Hid (errOf (genV dn g limit) = 30 ∧ valOf (genV dn g limit) = .mk 0 0 false [] []) := by
      have e : genV dn g limit = .no 30 := by unfold genV; rw [if_pos hf]
      rw [e]
      exact ⟨rfl, rfl⟩
    have hcase : kindP k = false ∨ (kindP k = true ∧ 0 < n) := by
      unfold formG at hf
      rw [hk, decide_eq_false (by rw [← hk]; exact h4), hn] at hf
      cases hkp : kindP k with
      | false => exact Or.inl rfl
      | true =>
        refine Or.inr ⟨rfl, ?_⟩
        rw [hkp] at hf
        rcases Nat.eq_zero_or_pos n with h0 | h0
        · rw [h0] at hf; simp at hf
        · exact h0
    rcases hcase with hkp | ⟨hkp, hpos⟩
    · rw [hkp] at Hk
      clear hA hA1 hR0 hdn hst hf hkp h4 hk hn
      go_enter Tryz.func8, Tryz.ntmps8
      go_wp2_with fail
      refine (unhide Hk).mono ?_
      rintro e w' ⟨rfl, hw⟩
      obtain rfl := hw
      go_upto_region 2 with fail
      go_wp2_with (refine wpList_store_row rfl 36 _ _ rfl R _ rfl rfl 36 _ (unhide HR).res value5 rfl (unhide H5) ?_)
      exact bodyPost_ret (res_row_tmp Tryz.results8 _ _ R 36 #[.int .i64 0, .int .i64 0, .bool false, .slice none 0 0, .slice none 0 0] (0, 0) _ rfl ((unhide HR).set #[.int .i64 0, .int .i64 0, .bool false, .slice none 0 0, .slice none 0 0]).res Tryz.underlying36 rfl value5 _ rfl) rfl ⟨_, by rw [(unhide HE).1]; rfl, by rw [(unhide HE).2]; exact zero_val _ _, ((unhide HR).set #[.int .i64 0, .int .i64 0, .bool false, .slice none 0 0, .slice none 0 0]).b⟩
    · rw [hkp] at Hk
      have z1 : decide ((0 : Int) < (n : Int)) = true := by simp; omega
      have z1n : decide (0 < n) = true := by simp; omega
      clear hA hA1 hR0 hdn hst hf hkp h4 hk hn
      go_enter Tryz.func8, Tryz.ntmps8
      go_wp2_with fail
      refine (unhide Hk).mono ?_
      rintro e w' ⟨rfl, hw⟩
      obtain rfl := hw
      go_upto_region 2 with fail
      go_wp2_with (refine wpList_store_row rfl 36 _ _ rfl R _ rfl rfl 36 _ (unhide HR).res value5 rfl (unhide H5) ?_)
      exact bodyPost_ret (res_row_tmp Tryz.results8 _ _ R 36 #[.int .i64 0, .int .i64 0, .bool false, .slice none 0 0, .slice none 0 0] (0, 0) _ rfl ((unhide HR).set #[.int .i64 0, .int .i64 0, .bool false, .slice none 0 0, .slice none 0 0]).res Tryz.underlying36 rfl value5 _ rfl) rfl ⟨_, by rw [(unhide HE).1]; rfl, by rw [(unhide HE).2]; exact zero_val _ _, ((unhide HR).set #[.int .i64 0, .int .i64 0, .bool false, .slice none 0 0, .slice none 0 0]).b⟩
  · have hf' : kindP k = true ∧ n = 0 := by
      have hf2 : formG g = true := by cases h : formG g with
        | false => exact absurd h hf
        | true => rfl
      unfold formG at hf2
      rw [hk, decide_eq_false (by rw [← hk]; exact h4), hn] at hf2
      simp only [Bool.and_eq_true, Bool.false_or, decide_eq_true_eq] at hf2
      exact ⟨hf2.1.1, hf2.1.2⟩
    obtain ⟨hkp, hn0⟩ := hf'
    rw [hkp] at Hk
    have z1 : decide ((0 : Int) < (n : Int)) = false := by simp; omega
    have z1n : decide (0 < n) = false := by simp; omega
    obtain ⟨U, hU⟩ : ∃ U, namedP g limit = U := ⟨_, rfl⟩
    rw [hU] at HNm
    have HV : Hid (genV dn g limit = if U = false then .no 31 else .yes (.mk 2 k false (bs s) [])) := by
      show _ = _
      unfold genV
      rw [if_neg hf, hU, if_neg h4, hk, hst]
    have Hkc := hide hkp
    clear hA hA1 hR0 hdn hst hf hkp h4 hk hn hU hn0
    go_enter Tryz.func8, Tryz.ntmps8
    go_wp2_with (go_at_call 17; refine (unhide Hk).mono ?_; rintro e w' ⟨rfl, hw⟩; obtain rfl := hw)
    refine (unhide HNm _).mono ?_
    rintro e w3 ⟨rfl, hb3⟩
    have HA3 := hide ((unhide HA).call hb3)
    have HR3 := hide ((unhide HR).call hb3)
    clear hb3 k0 k1 k2 hw1 hw2 eR HA HR HNm Hk
    obtain ⟨k0, k1, k2⟩ := three_at (unhide HA3)
    cases U with
    | false =>
      have HE : Hid (errOf (genV dn g limit) = 31 ∧ valOf (genV dn g limit) = .mk 0 0 false [] []) := by rw [unhide HV]; exact ⟨rfl, rfl⟩
      go_wp2_with (refine wpList_store_row rfl 36 _ _ rfl R _ rfl rfl 36 _ (unhide HR3).res value5 rfl (unhide H5) ?_)
      exact bodyPost_ret (res_row_tmp Tryz.results8 _ _ R 36 #[.int .i64 0, .int .i64 0, .bool false, .slice none 0 0, .slice none 0 0] (0, 0) _ rfl ((unhide HR3).set #[.int .i64 0, .int .i64 0, .bool false, .slice none 0 0, .slice none 0 0]).res Tryz.underlying36 rfl value5 _ rfl) rfl ⟨_, by rw [(unhide HE).1]; rfl, by rw [(unhide HE).2]; exact zero_val _ _, ((unhide HR3).set #[.int .i64 0, .int .i64 0, .bool false, .slice none 0 0, .slice none 0 0]).b⟩
    | true =>
      have HE : Hid (errOf (genV dn g limit) = 0 ∧ valOf (genV dn g limit) = .mk 2 k false (bs s) []) := by rw [unhide HV]; exact ⟨rfl, rfl⟩
      obtain ⟨cp, w4, hcv, hby, hb4⟩ := conv_bytes w3 s
      obtain ⟨B, hB⟩ : ∃ B, w3.heap.size = B := ⟨_, rfl⟩
      obtain ⟨N, hN⟩ : ∃ N, s.size = N := ⟨_, rfl⟩
      rw [hB, hN] at hcv hby
      have HR4 := hide ((unhide HR3).call hb4)
      have HBy := hide hby
      have HRB : Hid (R ≠ B ∧ w.heap.size ≤ B) := by
        have h1 := (unhide HR3).lt
        have h2 := (unhide HR3).b.size
        exact ⟨by omega, by omega⟩
      have HN := hide hN
      have H6 : Hid ((#[.int .i64 2, .int .i64 k, .bool false, .slice (some ⟨B, 0, none⟩) N cp, .slice none 0 0] : Array Value).all (·.oneCell') = true) := by show _ = true; simp [Value.oneCell']
      clear hby hb4 hB hN HV
      go_wp2_with (refine wpList_store_row rfl 36 _ _ rfl R _ rfl rfl 36 _ (unhide HR4).res value5 rfl (unhide H6) ?_)
      refine bodyPost_ret (res_row_tmp Tryz.results8 _ _ R 36 #[.int .i64 2, .int .i64 k, .bool false, .slice (some ⟨B, 0, none⟩) N cp, .slice none 0 0] (0, 0) _ rfl ((unhide HR4).set #[.int .i64 2, .int .i64 k, .bool false, .slice (some ⟨B, 0, none⟩) N cp, .slice none 0 0]).res Tryz.underlying36 rfl value5 _ rfl) rfl ⟨[.int .i64 2, .int .i64 k, .bool false, .slice (some ⟨B, 0, none⟩) N cp, .slice none 0 0], by rw [(unhide HE).1]; rfl, ?_, ((unhide HR4).set #[.int .i64 2, .int .i64 k, .bool false, .slice (some ⟨B, 0, none⟩) N cp, .slice none 0 0]).b⟩
      rw [(unhide HE).2]
      have h1 := bytes_setRow (unhide HBy) R (unhide HRB).1 #[.int .i64 2, .int .i64 k, .bool false, .slice (some ⟨B, 0, none⟩) N cp, .slice none 0 0]
      have h2 : (bs s).length = N := by rw [bs_len]; exact unhide HN
      rw [← h2] at h1 ⊢
      exact leaf_at 2 k h1 (unhide HRB).2 (by rw [bs_len]; omega)
end N
end Go.Proofs.YtcofnockikninabGreatDoor
