/-
  The walk of the statement NameBelow.
-/
import Derived.Test.YtcofnockikninabGreatDoorAnc10
import Derived.Test.YtcofnockikninabGreatDoorDE
import Derived.Test.YtcofnockikninabGreatDoorDC
namespace Go.Proofs.YtcofnockikninabGreatDoor
open Go.RowKit
/-- The DN that types and texts make. -/
def dnOf (xs ys : List ByteArray) : List (Bs × Bs) := List.zipWith (fun a b => (N.bs a, N.bs b)) xs ys
theorem dnOf_len {xs ys : List ByteArray} (h : xs.length ≤ ys.length) : (dnOf xs ys).length = xs.length := by unfold dnOf; rw [List.length_zipWith]; omega
theorem dnOf_at {xs ys : List ByteArray} {i : Nat} {x y : ByteArray} (hx : xs[i]? = some x) (hy : ys[i]? = some y) : (dnOf xs ys)[i]? = some (N.bs x, N.bs y) := by unfold dnOf; rw [List.getElem?_zipWith, hx, hy]
theorem dnV_take {d : List (Bs × Bs)} {v : DV} (h : dnV d = .yes v) (k : Nat) : ∃ u, dnV (d.take k) = .yes u := by
  unfold dnV at h
  split at h
  · cases h
  · rename_i h1
    split at h
    · cases h
    · rename_i h2
      split at h
      · cases h
      · rename_i h3
        have a2 : (d.all fun a => (oidVP a.1).isSome) = true := by
          cases h : (d.all fun a => (oidVP a.1).isSome) with
          | true => rfl
          | false => exact absurd h h2
        have a3 : (d.all fun a => textP a.2) = true := by
          cases h : (d.all fun a => textP a.2) with
          | true => rfl
          | false => exact absurd h h3
        rw [List.all_eq_true] at a2 a3
        exact ⟨_, dnV_yes (by rw [List.length_take]; omega) (fun x hx => a2 x (List.mem_of_mem_take hx)) (fun x hx => a3 x (List.mem_of_mem_take hx))⟩
/-- What has no error has none as a beginning's limit. -/
theorem refG_take {d : List (Bs × Bs)} (h : errOf (genV dnV ⟨4, [], d⟩ false) = 0) (k : Nat) : refG dnV ⟨4, [], d⟩ false = false ∧ refG dnV ⟨4, [], d.take k⟩ true = false := by
  refine ⟨by unfold refG; rw [h]; rfl, ?_⟩
  unfold genV at h
  rw [if_neg (show ¬ formG ⟨4, [], d⟩ = false by simp [formG, kindP])] at h
  split at h
  · cases h
  · rw [if_pos rfl] at h
    cases hd : dnV d with
    | no e => rw [hd] at h; cases h
    | yes v =>
      obtain ⟨u, hu⟩ := dnV_take hd k
      unfold refG genV
      rw [if_neg (show ¬ formG ⟨4, [], d.take k⟩ = false by simp [formG, kindP]), if_neg (show ¬ namedP ⟨4, [], d.take k⟩ true = false by simp [namedP]), if_pos rfl]
      simp only [hu]
      rfl
theorem dirP_take (d : List (Bs × Bs)) (k : Nat) (hk : k ≤ d.length) : dirP d (d.take k) = true := by
  unfold dirP sameP
  rw [List.length_take, Nat.min_eq_left hk]
  simp [hk]
theorem dirP_other {d : List (Bs × Bs)} {k : Nat} {a : Bs × Bs} {t : Bs} (hk : d[k]? = some a) (ht : ¬ t = a.2) : dirP d ((d.take (k + 1)).set k (a.1, t)) = false := by
  have hkl : k < d.length := (List.getElem?_eq_some_iff.1 hk).1
  unfold dirP sameP
  rw [List.length_set, List.length_take, Nat.min_eq_left (by omega)]
  rw [decide_eq_false (show ¬ d.take (k + 1) = (d.take (k + 1)).set k (a.1, t) from fun e => ?_)]
  · simp
  · have h1 : (d.take (k + 1))[k]? = some a := by rw [List.getElem?_take_of_lt (by omega)]; exact hk
    rw [e, List.getElem?_set_self (by rw [List.length_take]; omega), Option.some.injEq] at h1
    exact ht (by rw [← h1])
theorem gen_at {w : World} {sp : Option Addr} {n c : Nat} {d : List (Bs × Bs)} (h : DnAt w (.slice sp n c) d) (hn : d.length = n) : GenAt w [.int .i64 4, .string { data := #[] }, .slice sp n c] ⟨4, [], d⟩ := ⟨{ data := #[] }, sp, c, by unfold gcells; simp only [hn], rfl, by simp only [hn]; exact h⟩
/-- The empty row of attributes that a literal lays. -/
theorem arow_lit (w : World) : ARow w (w.alloc (.cells #[] 33)) (.slice (some ⟨w.heap.size, 0, none⟩) 0 0) [] := by
  refine ⟨⟨rfl, Or.inr ⟨w.heap.size, 0, #[], rfl, Nat.le_refl _, heap_alloc_new w _, Nat.le_refl _, Nat.zero_le _, rfl, rfl⟩⟩, (Below.refl _ _).alloc (Nat.le_refl _) _⟩
theorem str_at {w : World} {sp : Option Addr} {n c : Nat} {l : List ByteArray} (h : ValsAt w (.slice sp n c) (l.map Value.string)) (k : Nat) (hk : k < l.length) : ∃ ba oa x, l[k]? = some x ∧ sp = some ⟨ba, oa, none⟩ ∧ w.cell? ⟨ba, oa + k, none⟩ = some (.string x) := by
  obtain ⟨b, o, c2, e, _, _, hc⟩ := ValsAt.cell h (fun e => by rw [List.map_eq_nil_iff] at e; rw [e] at hk; simp at hk)
  simp only [Value.slice.injEq] at e
  refine ⟨b, o, l[k], List.getElem?_eq_getElem hk, e.1, ?_⟩
  rw [hc k (by simpa using hk), List.getD_eq_getElem?_getD, List.getElem?_map, List.getElem?_eq_getElem hk]
  rfl
namespace N
open K
set_option maxRecDepth 100000 in
set_option maxHeartbeats 16000000 in
theorem below_true (w0 : World) (hR : Rdy w0) (s1 s2 : Option Addr) (n1 n2 c1 c2 : Nat) (xs ys : List ByteArray) (hx : ValsAt w0 (.slice s1 n1 c1) (xs.map Value.string)) (hy : ValsAt w0 (.slice s2 n2 c2) (ys.map Value.string)) (hn1 : xs.length = n1) (hn2 : ys.length = n2) (b1 : n1 ≤ 9223372036854775807) (b2 : n2 ≤ 9223372036854775807) (n : Int) (nb0 : -9223372036854775808 ≤ n) (nb1 : n ≤ 9223372036854775807) (other : ByteArray) :
    Calls Tryz.prog 4 #[.slice s1 n1 c1, .slice s2 n2 c2, .int .i64 n, .string other] w0 fun e w' => e = .returned (.bool true) ∧ Below w0.heap.size w0 w' := by
  have HX : Hid (∀ wr k, Below w0.heap.size w0 wr → k < n1 → ∃ ba oa x, xs[k]? = some x ∧ s1 = some ⟨ba, oa, none⟩ ∧ wr.cell? ⟨ba, oa + k, none⟩ = some (.string x)) := fun wr k hb hk => str_at (hx.below hb) k (by omega)
  have HY : Hid (∀ wr k, Below w0.heap.size w0 wr → k < n2 → ∃ ba oa x, ys[k]? = some x ∧ s2 = some ⟨ba, oa, none⟩ ∧ wr.cell? ⟨ba, oa + k, none⟩ = some (.string x)) := fun wr k hb hk => str_at (hy.below hb) k (by omega)
  have HRd : Hid (∀ wr, Below w0.heap.size w0 wr → Rdy wr) := fun wr hb => hR.below hb
  have Hanc := hide (anchor_c w0 hR)
  have Hn1 := hide hn1
  have Hn2 := hide hn2
  obtain ⟨NO, hNO⟩ : ∃ NO, other.size = NO := ⟨_, rfl⟩
  clear hx hy hR hn1 hn2
  go_enter Tryz.func4, Tryz.ntmps4
  go_wp2_with fail
  refine (unhide Hanc).mono ?_
  rintro e w2 ⟨rfl, hb⟩
  have HB2 := hide hb
  clear hb Hanc
  by_cases g1 : n1 < 1
  · have t1 : decide ((n1 : Int) < 1) = true := by simp; omega
    have t1n : decide (n1 < 1) = true := by simp; omega
    go_wp2
    go_ret
    exact ⟨rfl, unhide HB2⟩
  have t1 : decide ((n1 : Int) < 1) = false := by simp; omega
  have t1n : decide (n1 < 1) = false := by simp; omega
  by_cases g2 : 10 < n1
  · have t2 : decide ((10 : Int) < (n1 : Int)) = true := by simp; omega
    have t2n : decide (10 < n1) = true := by simp; omega
    go_wp2
    go_ret
    exact ⟨rfl, unhide HB2⟩
  have t2 : decide ((10 : Int) < (n1 : Int)) = false := by simp; omega
  have t2n : decide (10 < n1) = false := by simp; omega
  by_cases g3 : n2 < n1
  · have t3 : decide ((n2 : Int) < (n1 : Int)) = true := by simp; omega
    have t3n : decide (n2 < n1) = true := by simp; omega
    go_wp2
    go_ret
    exact ⟨rfl, unhide HB2⟩
  have t3 : decide ((n2 : Int) < (n1 : Int)) = false := by simp; omega
  have t3n : decide (n2 < n1) = false := by simp; omega
  by_cases g4 : n < 0
  · have t4 : decide (n < 0) = true := by simp; omega
    go_wp2
    go_ret
    exact ⟨rfl, unhide HB2⟩
  have t4 : decide (n < 0) = false := by simp; omega
  obtain ⟨m, rfl⟩ : ∃ m : Nat, n = (m : Int) := ⟨n.toNat, by omega⟩
  by_cases g5 : n1 < m
  · have t5 : decide ((n1 : Int) < (m : Int)) = true := by simp; omega
    have t5n : decide (n1 < m) = true := by simp; omega
    clear g4
    go_wp2
    go_ret
    exact ⟨rfl, unhide HB2⟩
  have t5 : decide ((n1 : Int) < (m : Int)) = false := by simp; omega
  have t5n : decide (n1 < m) = false := by simp; omega
  by_cases g6 : 100 < NO
  · have t6 : decide ((100 : Int) < (NO : Int)) = true := by simp; omega
    have t6n : decide (100 < NO) = true := by simp; omega
    clear g4
    go_wp2
    go_ret
    exact ⟨rfl, unhide HB2⟩
  have t6 : decide ((100 : Int) < (NO : Int)) = false := by simp; omega
  have t6n : decide (100 < NO) = false := by simp; omega
  obtain ⟨D, hD⟩ : ∃ D, dnOf xs ys = D := ⟨_, rfl⟩
  have HDl : Hid (D.length = n1) := by show _ = _; rw [← hD, dnOf_len (by rw [unhide Hn1, unhide Hn2]; omega)]; exact unhide Hn1
  have HDa : Hid (∀ i x y, xs[i]? = some x → ys[i]? = some y → D[i]? = some (bs x, bs y)) := fun i x y h1 h2 => by rw [← hD]; exact dnOf_at h1 h2
  have HO : Hid (other.size ≤ 100) := by show _ ≤ _; omega
  clear hD g4
  go_wp2
  clear t1 t1n t2 t2n t3 t3n t4 t5 t5n t6 t6n
  go_loopw [9, 50] (fun dd ii wr => ∃ (i c : Nat) (sp : Option Addr), i ≤ n1 ∧ dd = .slice sp i c ∧ ii = .int .i64 (i : Int) ∧ Hid (ARow w2 wr (.slice sp i c) (D.take i)) ∧ Hid (∀ a ∈ D.take i, a.1.length ≤ 100 ∧ a.2.length ≤ 100)) (fun _ ii _ => n1 - (intOf ii).toNat)
  case atStart => exact ⟨0, 0, none, by omega, rfl, rfl, arow_nil w2, fun a ha => by simp at ha⟩
  case round =>
    obtain ⟨i, c, sp, hi, rfl, rfl, HA, HL⟩ := hrel
    have HBr : Hid (Below w0.heap.size w0 wr) := (unhide HB2).trans ((unhide HA).b.mono (unhide HB2).size)
    by_cases hlt : i < n1
    · obtain ⟨ba, oa, x, hxi, rfl, hc1⟩ := unhide HX wr i (unhide HBr) hlt
      obtain ⟨bb, ob, y, hyi, rfl, hc2⟩ := unhide HY wr i (unhide HBr) (by omega)
      have f1 : decide ((i : Int) < (n1 : Int)) = true := by simp; omega
      have f1n : decide (i < n1) = true := by simp; omega
      have k0 : (0 : Int) ≤ (i : Int) := by omega
      have k1 : (i : Int) < (n1 : Int) := by omega
      have k2 : (i : Int) < (n2 : Int) := by omega
      obtain ⟨X, hX⟩ : ∃ X, x.size = X := ⟨_, rfl⟩
      obtain ⟨Y, hY⟩ : ∃ Y, y.size = Y := ⟨_, rfl⟩
      by_cases hX1 : 100 < X
      · have q1 : decide ((100 : Int) < (X : Int)) = true := by simp; omega
        have q1n : decide (100 < X) = true := by simp; omega
        clear hxi hyi
        go_wp2
        go_ret
        exact ⟨rfl, unhide HBr⟩
      have q1 : decide ((100 : Int) < (X : Int)) = false := by simp; omega
      have q1n : decide (100 < X) = false := by simp; omega
      by_cases hY1 : 100 < Y
      · have q2 : decide ((100 : Int) < (Y : Int)) = true := by simp; omega
        have q2n : decide (100 < Y) = true := by simp; omega
        clear hxi hyi
        go_wp2
        go_ret
        exact ⟨rfl, unhide HBr⟩
      have q2 : decide ((100 : Int) < (Y : Int)) = false := by simp; omega
      have q2n : decide (100 < Y) = false := by simp; omega
      have hdi := unhide HDa i x y hxi hyi
      have htk : D.take (i + 1) = D.take i ++ [(bs x, bs y)] := by rw [List.take_add_one, hdi]; rfl
      have Htk := hide htk
      have HL2 : Hid (∀ a ∈ D.take (i + 1), a.1.length ≤ 100 ∧ a.2.length ≤ 100) := fun a ha => by
        rw [htk, List.mem_append, List.mem_singleton] at ha
        rcases ha with ha | rfl
        · exact unhide HL a ha
        · exact ⟨by rw [bs_len]; omega, by rw [bs_len]; omega⟩
      have Hdl : Hid ((D.take i).length = i ∧ (D.take (i + 1)).length = i + 1) := by have := unhide HDl; exact ⟨by rw [List.length_take]; omega, by rw [List.length_take]; omega⟩
      have HY1 := hide (one_attr wr x y)
      have HA2 := hide ((unhide HA).call ((Below.refl wr.heap.size wr).alloc (Nat.le_refl _) (.cells #[.string x, .string y] 33)))
      clear hxi hyi hdi htk HL HBr
      go_wp2_with (at_builtin; refine wpList_append_attrs rfl _ _ rfl (.slice sp i c) (.slice (some ⟨wr.heap.size, 0, none⟩) 1 1) (D.take i) [(bs x, bs y)] rfl (unhide HA2) rfl (unhide HY1) (by simp) (by rw [(unhide Hdl).1]; simp only [List.length_singleton]; omega) ?_
                   intro v3 W3 hR3 _
                   rw [← unhide Htk] at hR3
                   obtain ⟨p3, q3, rfl⟩ := hR3.form
                   rw [(unhide Hdl).2] at hR3 ⊢
                   have HR3 := hide hR3
                   clear hR3)
      go_roundw
      case rel =>
        first
          | exact ⟨i + 1, q3, p3, by omega, rfl, by go_num, HR3, HL2⟩
          | ((repeat apply Exists.intro); exact ⟨⟨i + 1, q3, p3, by omega, rfl, by go_num, HR3, HL2⟩, rfl⟩)
      case measure => simp [intOf]; omega
    · have f1 : decide ((i : Int) < (n1 : Int)) = false := by simp; omega
      have f1n : decide (i < n1) = false := by simp; omega
      have hie : i = n1 := by omega
      rw [hie] at HA HL ⊢
      have hall : D.take n1 = D := List.take_of_length_le (by have := unhide HDl; omega)
      rw [hall] at HA HL
      have f2 : decide ((n1 : Int) < (n1 : Int)) = false := by simp
      clear hall f1 f1n hlt hie hi
      have HLm : Hid (∀ a ∈ D, a.1.length ≤ 1000000 ∧ a.2.length ≤ 1000000) := fun a ha => by have := unhide HL a ha; omega
      have hG := Blk.new (unhide HA).b #[.int .i64 4, .string { data := #[] }, .slice sp n1 c] 28
      obtain ⟨w3, hw3⟩ : ∃ w3, wr.alloc (.cells #[.int .i64 4, .string { data := #[] }, .slice sp n1 c] 28) = w3 := ⟨_, rfl⟩
      obtain ⟨A, eA⟩ : ∃ A, wr.heap.size = A := ⟨_, rfl⟩
      have hb3 : Below wr.heap.size wr w3 := by rw [← hw3]; exact (Below.refl _ _).alloc (Nat.le_refl _) _
      rw [hw3, eA] at hG
      obtain ⟨a0, a1, a2⟩ := three_at hG
      have HG3 := hide hG
      have HA3 := hide ((unhide HA).call hb3)
      have HB3 : Hid (Below w0.heap.size w0 w3) := (unhide HBr).trans (hb3.mono (unhide HBr).size)
      have HGn : Hid (GenAt w3 [.int .i64 4, .string { data := #[] }, .slice sp n1 c] ⟨4, [], D⟩) := gen_at (unhide HA3).dn (unhide HDl)
      have Hgv := hide (genv4_c w3 (unhide HRd w3 (unhide HB3)) _ ⟨4, [], D⟩ false (unhide HGn) (by simp) (by have := unhide HDl; show D.length ≤ _; omega) (unhide HLm) rfl)
      obtain ⟨er, her⟩ : ∃ er, errOf (genV dnV ⟨4, [], D⟩ false) = er := ⟨_, rfl⟩
      rw [her] at Hgv
      clear hG hb3 HA HBr
      go_wp2_with fail
      refine (unhide Hgv).mono ?_
      rintro e w4 ⟨ds, rfl, hv, hb⟩
      obtain ⟨n5, hv⟩ := hv
      obtain ⟨p1, q1, p2, q2, rfl⟩ := hv.form
      obtain ⟨vc, hvc⟩ : ∃ vc, (valOf (genV dnV ⟨4, [], D⟩ false)).cls = vc := ⟨_, rfl⟩
      obtain ⟨vt, hvt⟩ : ∃ vt, (valOf (genV dnV ⟨4, [], D⟩ false)).tag = vt := ⟨_, rfl⟩
      obtain ⟨vm, hvm⟩ : ∃ vm, (valOf (genV dnV ⟨4, [], D⟩ false)).made = vm := ⟨_, rfl⟩
      obtain ⟨vl, hvl⟩ : ∃ vl, (valOf (genV dnV ⟨4, [], D⟩ false)).bytes.length = vl := ⟨_, rfl⟩
      obtain ⟨vk, hvk⟩ : ∃ vk, (valOf (genV dnV ⟨4, [], D⟩ false)).kids.length = vk := ⟨_, rfl⟩
      simp only [hvc, hvt, hvm, hvl, hvk]
      unfold dcells
      obtain ⟨w5, hw5⟩ : ∃ w5, w4.alloc (.cells #[.int .i64 vc, .int .i64 vt, .bool vm, .slice p1 vl q1, .slice p2 vk q2] 36) = w5 := ⟨_, rfl⟩
      have hb5 : Below w3.heap.size w3 w5 := by rw [← hw5]; exact hb.alloc hb.size _
      have HG5 := hide ((unhide HG3).call hb5)
      have HA5 := hide ((unhide HA3).call hb5)
      have HB5 : Hid (Below w0.heap.size w0 w5) := (unhide HB3).trans (hb5.mono (unhide HB3).size)
      clear hv hb hvc hvt hvm hvl hvk hb5 Hgv HG3 HA3 HB3 HGn a0 a1 a2 hw3 eA
      obtain ⟨a0, a1, a2⟩ := three_at (unhide HG5)
      have HWi : Hid (∀ (wr : World) (sq : Option Addr) (k cq : Nat) (e : List (Bs × Bs)), Below w5.heap.size w5 wr → DnAt wr (.slice sq k cq) e → e.length = k → k ≤ 100 → (∀ a ∈ e, a.1.length ≤ 1000000 ∧ a.2.length ≤ 1000000) → Calls Tryz.prog 7 #[.agg #[.int .i64 4, .string { data := #[] }, .slice sp n1 c], .agg #[.int .i64 4, .string { data := #[] }, .slice sq k cq]] wr fun x w' => x = .returned (.bool (!refG dnV ⟨4, [], D⟩ false && !refG dnV ⟨4, [], e⟩ true && dirP D e)) ∧ Below wr.heap.size wr w') := fun wr sq k cq e hb he hk hk1 hle =>
        within4_c wr (unhide HRd wr ((unhide HB5).trans (hb.mono (unhide HB5).size))) _ _ ⟨4, [], D⟩ ⟨4, [], e⟩ (gen_at (((unhide HA5).call hb).dn) (unhide HDl)) (gen_at he hk) (by simp) (by simp) (by have := unhide HDl; show D.length ≤ _; omega) (by show e.length ≤ _; omega) (unhide HLm) hle rfl rfl
      by_cases he0 : er = 0
      · have Href := hide (refG_take (her.trans he0))
        subst he0
        have hmn : m ≤ n1 := by omega
        obtain ⟨sq, hsl, hdq⟩ := slice_dn (unhide HA5).dn (unhide HDl) m hmn
        have HDq := hide hdq
        have Hm100 : Hid (m ≤ 100) := by show _ ≤ _; omega
        have Hdm : Hid ((D.take m).length = m) := by show _ = _; have := unhide HDl; rw [List.length_take]; omega
        have HLt : Hid (∀ a ∈ D.take m, a.1.length ≤ 1000000 ∧ a.2.length ≤ 1000000) := fun a ha => unhide HLm a (List.mem_of_mem_take ha)
        have HS5 : Hid (∀ w', Below w5.heap.size w5 w' → w'.cell? ⟨A, 0, none⟩ = some (.int .i64 4) ∧ w'.cell? ⟨A, 1, none⟩ = some (.string { data := #[] }) ∧ w'.cell? ⟨A, 2, none⟩ = some (.slice sp n1 c)) := fun w' hb => three_at ((unhide HG5).call hb)
        clear hdq her g1 g2 g3 g6
        go_wp2
        go_region_held3 (fun w' => w'.cell? ⟨A, 0, none⟩ = some (.int .i64 4) ∧ w'.cell? ⟨A, 1, none⟩ = some (.string { data := #[] }) ∧ w'.cell? ⟨A, 2, none⟩ = some (.slice sp n1 c)) (go_keep)
          ((first
            | (go_at_call 7
               refine (unhide HWi _ sq m c (D.take m) (Below.refl _ _).drew ((unhide HDq).below (Below.refl _ _).drew) (unhide Hdm) (unhide Hm100) (unhide HLt)).mono ?_
               rintro e w6 ⟨rfl, hb6⟩
               rw [(unhide Href m).1, (unhide Href m).2, dirP_take D m (by have := unhide HDl; omega)]
               have Hb6 : Hid (Below w5.heap.size w5 w6) := (Below.refl w5.heap.size w5).drew.trans hb6
               obtain ⟨a0, a1, a2⟩ := unhide HS5 w6 (unhide Hb6)
               clear hb6)))
        have HB6 : Hid (Below w0.heap.size w0 w6) := (unhide HB5).trans ((unhide Hb6).mono (unhide HB5).size)
        by_cases hm0 : m = 0
        · have y1 : ((m : Int) == 0) = true := by simp; omega
          clear hm0
          go_wp2
          go_ret
          exact ⟨rfl, unhide HB6⟩
        have y1 : ((m : Int) == 0) = false := by simp; omega
        obtain ⟨k, hk⟩ : ∃ k, m - 1 = k := ⟨_, rfl⟩
        have hmk : k + 1 = m := by omega
        have HA6 := hide ((unhide HA5).call (unhide Hb6))
        obtain ⟨at_, bb, oo, hda, hsp, ha1, ha2⟩ := dnc_at (unhide HA6).dn (k := k) (by have := unhide HDl; omega)
        subst hsp
        obtain ⟨tx, htx⟩ : ∃ tx, st at_.2 = tx := ⟨_, rfl⟩
        rw [htx] at ha2
        obtain ⟨E, hE⟩ : ∃ E, decide (bs other = at_.2) = E := ⟨_, rfl⟩
        have e1 : (other.toList == tx.toList) = E := by rw [eql_str, ← htx, bs_st]; exact hE
        have ek : (m : Int) - 1 = (k : Int) := by omega
        have k0 : (0 : Int) ≤ (k : Int) := by omega
        have k1 : (k : Int) < (n1 : Int) := by omega
        have k2 : (k : Int) < (m : Int) := by omega
        have Hmk := hide hmk
        have Hda := hide hda
        clear hm0 hk hmk hda htx
        cases E with
        | true =>
          clear hE hsl
          go_wp2
          go_ret
          exact ⟨rfl, unhide HB6⟩
        | false =>
          have HF : Hid (dirP D ((D.take m).set k (at_.1, bs other)) = false) := by
            have h := dirP_other (unhide Hda) (of_decide_eq_false hE)
            rw [unhide Hmk] at h
            exact h
          have HC0 := hide (arow_lit w6)
          have HD7 : Hid (DnAt (w6.alloc (.cells #[] 33)) (.slice sq m c) (D.take m)) := ((unhide HDq).below (unhide Hb6)).below ((Below.refl w6.heap.size w6).alloc (Nat.le_refl _) _)
          have Hne : Hid (D.take m ≠ []) := fun e => by have h1 := unhide Hdm; rw [e] at h1; have := unhide Hmk; simp at h1; omega
          have Htk : Hid ((D.take m)[k]? = some at_) := by show _ = _; rw [List.getElem?_take_of_lt (by have := unhide Hmk; omega)]; exact unhide Hda
          clear hE
          go_wp2_with (at_builtin; refine wpList_append_attrs rfl _ _ rfl (.slice (some ⟨w6.heap.size, 0, none⟩) 0 0) (.slice sq m c) [] (D.take m) rfl (unhide HC0) rfl (unhide HD7) (unhide Hne) (by rw [unhide Hdm]; have := unhide Hm100; simp; omega) ?_
                       intro v8 w8 hR8 _
                       rw [List.nil_append] at hR8
                       obtain ⟨g8, c8, rfl⟩ : ∃ g c, v8 = .slice (some ⟨g, 0, none⟩) m c := by
                         rcases hR8.own.2 with ⟨_, e⟩ | ⟨g, cap, _, e, _⟩
                         · rw [unhide Hdm] at e; have := unhide Hmk; omega
                         · exact ⟨g, cap, by rw [e, unhide Hdm]⟩
                       obtain ⟨⟨hcell, hfro⟩, hdn9, hbl9⟩ := hR8.text (unhide Htk) other
                       obtain ⟨old, hold⟩ : ∃ old, st at_.2 = old := ⟨_, rfl⟩
                       rw [hold] at hcell
                       obtain ⟨w9, hw9⟩ : ∃ w9, w8.setCell ⟨g8, k * 2 + 1, none⟩ (.string other) = w9 := ⟨_, rfl⟩
                       rw [hw9] at hdn9 hbl9
                       have HD9 := hide hdn9
                       have HB9 : Hid (Below w5.heap.size w5 w9) := (unhide Hb6).trans (hbl9.mono (unhide Hb6).size)
                       obtain ⟨a0, a1, a2⟩ := unhide HS5 w9 (unhide HB9)
                       clear hR8 hdn9 hbl9 hold)
          have HL9 : Hid (∀ a ∈ (D.take m).set k (at_.1, bs other), a.1.length ≤ 1000000 ∧ a.2.length ≤ 1000000) := fun a ha => by
            rcases List.mem_or_eq_of_mem_set ha with ha | rfl
            · exact unhide HLt a ha
            · exact ⟨(unhide HLt at_ (List.mem_of_getElem? (unhide Htk))).1, by rw [bs_len]; have := unhide HO; omega⟩
          refine (unhide HWi w9 (some ⟨g8, 0, none⟩) m c8 _ (unhide HB9) (unhide HD9) (by rw [List.length_set]; exact unhide Hdm) (unhide Hm100) (unhide HL9)).mono ?_
          rintro e w10 ⟨rfl, hb⟩
          rw [unhide HF, Bool.and_false]
          have HB10 : Hid (Below w0.heap.size w0 w10) := (unhide HB5).trans (((unhide HB9).trans (hb.mono (unhide HB9).size)).mono (unhide HB5).size)
          clear hb
          go_wp2
          go_ret
          exact ⟨rfl, unhide HB10⟩
      · have z1 : ((er : Int) != 0) = true := by simp; omega
        have z2 : ((er : Int) == 0) = false := by simp; omega
        have Href : Hid (refG dnV ⟨4, [], D⟩ false = true) := by show _ = _; unfold refG; rw [her, decide_eq_false he0]; rfl
        have HW := hide (unhide HWi w5 sp n1 c D (Below.refl _ _) (unhide HA5).dn (unhide HDl) (by omega) (unhide HLm))
        rw [unhide Href] at HW
        clear her he0
        go_wp2_with fail
        refine (unhide HW).mono ?_
        rintro e w6 ⟨rfl, hb⟩
        have HB6 : Hid (Below w0.heap.size w0 w6) := (unhide HB5).trans (hb.mono (unhide HB5).size)
        clear hb
        go_wp2
        go_ret
        exact ⟨rfl, unhide HB6⟩
end N
end Go.Proofs.YtcofnockikninabGreatDoor
