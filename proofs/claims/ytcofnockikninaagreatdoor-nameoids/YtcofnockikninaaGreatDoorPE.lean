/-
  The walks of the landed timeBytes and TimeValue.
-/
import Derived.Test.YtcofnockikninaaGreatDoorPA
import Derived.Test.YtcofnockikninaaGreatDoorMA
import Derived.Test.YtcofnockikninaaGreatDoorDtime9
import Derived.Test.YtcofnockikninaaGreatDoorKg
namespace Go.Proofs.YtcofnockikninaaGreatDoor
open Go.RowKit
def nv (n : Nat) : Value := .int .i64 (n : Int)
/-- Two digits for each number. -/
def twos (l : List Nat) : Bs := l.flatMap fun n => [dig (n / 10), dig (n % 10)]
theorem twos_len (l : List Nat) : (twos l).length = 2 * l.length := by
  unfold twos
  induction l with
  | nil => rfl
  | cons a l ih => rw [List.flatMap_cons, List.length_append, ih]; simp; omega
theorem twos_snoc (l : List Nat) (n : Nat) : twos (l ++ [n]) = twos l ++ [dig (n / 10), dig (n % 10)] := by simp [twos]
theorem take_snocN {l : List Nat} {i : Nat} (hi : i < l.length) : l.take (i + 1) = l.take i ++ [l.getD i 0] := by
  rw [List.take_add_one, List.getElem?_eq_getElem hi, List.getD_eq_getElem?_getD, List.getElem?_eq_getElem hi]; rfl
namespace N
theorem ValsAt.int {w : World} {sp : Option Addr} {N c : Nat} {l : List Nat} (h : ValsAt w (.slice sp N c) (l.map nv)) (k : Nat) (hk : k < l.length) : ∃ ba oa, sp = some ⟨ba, oa, none⟩ ∧ w.cell? ⟨ba, oa + k, none⟩ = some (.int .i64 (l.getD k 0 : Int)) := by
  obtain ⟨b, o, c2, e, _, _, hc⟩ := ValsAt.cell h (fun e => by rw [List.map_eq_nil_iff] at e; rw [e] at hk; simp at hk)
  simp only [Value.slice.injEq] at e
  refine ⟨b, o, e.1, ?_⟩
  rw [hc k (by simpa using hk), List.getD_eq_getElem?_getD, List.getElem?_map, List.getElem?_eq_getElem hk]
  simp [nv, List.getD_eq_getElem?_getD, hk]
theorem two_lit (w : World) (p q : Nat) (hp : p ≤ 9) (hq : q ≤ 9) : BytesAt (w.alloc (.cells #[.int .u8 ((48 + p : Nat) : Int), .int .u8 ((48 + q : Nat) : Int)] 5)) (.slice (some ⟨w.heap.size, 0, none⟩) 2 2) [dig p, dig q] := by
  have := bytes_new w [dig p, dig q]
  simp only [List.map_cons, List.map_nil, bv, dig_toNat hp, dig_toNat hq] at this
  exact this
set_option maxRecDepth 100000 in
set_option maxHeartbeats 4000000 in
theorem timeb_c (w : World) (x : Value) (l : List Nat) (hx : ValsAt w x (l.map nv)) (h99 : ∀ n ∈ l, n ≤ 99) (hl : l.length ≤ 100) : Calls Tryz.prog 52 #[x] w fun e w' => ∃ v, e = .returned v ∧ Row w w' v (twos l ++ [90]) := by
  obtain ⟨sp, c, rfl⟩ := hx.form
  rw [List.length_map] at hx ⊢
  obtain ⟨N, hN⟩ : ∃ N, l.length = N := ⟨_, rfl⟩
  have HN := hide hN
  rw [hN] at hx hl ⊢
  have HX : Hid (∀ (k : Nat) (wr : World), k < N → Below w.heap.size w wr → ∃ (ba oa n : Nat), sp = some ⟨ba, oa, none⟩ ∧ n ≤ 99 ∧ l.getD k 0 = n ∧ wr.cell? ⟨ba, oa + k, none⟩ = some (.int .i64 (n : Int))) := fun k wr hk hb => by
    have hk2 : k < l.length := by omega
    obtain ⟨ba, oa, e, hc⟩ := ValsAt.int (hx.below hb) k hk2
    refine ⟨ba, oa, _, e, h99 _ ?_, rfl, hc⟩
    rw [List.getD_eq_getElem?_getD, List.getElem?_eq_getElem hk2]
    exact List.getElem_mem hk2
  clear hx h99 hN
  go_enter Tryz.func52, Tryz.ntmps52
  go_wp2
  go_loopw [3, 8] (fun bb ii wr => ∃ (k M cv : Nat) (sv : Option Addr), k ≤ N ∧ M = 2 * k ∧ bb = .slice sv M cv ∧ ii = .int .i64 (k : Int) ∧ Hid (Row w wr (.slice sv M cv) (twos (l.take k)))) (fun _ ii _ => N - (intOf ii).toNat)
  case atStart => exact ⟨0, 0, 0, none, by omega, by omega, rfl, rfl, ⟨ownb_nil _ _, Below.refl _ _⟩⟩
  case round =>
    obtain ⟨k, M, cv, sv, hk, hM, rfl, rfl, HR⟩ := hrel
    by_cases hlt : k < N
    · obtain ⟨ba, oa, n, rfl, hn, hg, hc⟩ := unhide HX k wr hlt (unhide HR).b
      have f1 : decide ((k : Int) < (N : Int)) = true := by simp; omega
      have f1n : decide (k < N) = true := by simp; omega
      obtain ⟨p, hp⟩ : ∃ p, n / 10 = p := ⟨_, rfl⟩
      obtain ⟨q, hq⟩ : ∃ q, n % 10 = q := ⟨_, rfl⟩
      obtain ⟨P, hP⟩ : ∃ P, 48 + p = P := ⟨_, rfl⟩
      obtain ⟨Q, hQ⟩ : ∃ Q, 48 + q = Q := ⟨_, rfl⟩
      have e1 : (n : Int) / 10 = (p : Int) := by omega
      have e2 : (n : Int) % 10 = (q : Int) := by omega
      have e3 : (48 : Int) + (p : Int) = (P : Int) := by omega
      have e4 : (48 : Int) + (q : Int) = (Q : Int) := by omega
      have u3 : IntKind.u8.wrap (P : Int) = (P : Int) := by rw [IntKind.wrap_u8']; omega
      have u4 : IntKind.u8.wrap (Q : Int) = (Q : Int) := by rw [IntKind.wrap_u8']; omega
      have HY : Hid (BytesAt (wr.alloc (.cells #[.int .u8 (P : Int), .int .u8 (Q : Int)] 5)) (.slice (some ⟨wr.heap.size, 0, none⟩) 2 2) [dig (n / 10), dig (n % 10)]) := by
        show BytesAt _ _ _
        rw [hp, hq, ← hP, ← hQ]
        exact two_lit wr p q (by omega) (by omega)
      have HR2 := hide ((unhide HR).lit (.cells #[.int .u8 (P : Int), .int .u8 (Q : Int)] 5))
      have HT : Hid (twos (l.take (k + 1)) = twos (l.take k) ++ [dig (n / 10), dig (n % 10)]) := by show _ = _; rw [take_snocN (by have := unhide HN; omega), twos_snoc, hg]
      have Hll : Hid ((twos (l.take k)).length + [dig (n / 10), dig (n % 10)].length ≤ 1073741824) := by
        show _ ≤ _
        rw [twos_len, List.length_take]
        simp
        omega
      obtain ⟨M3, hM3⟩ : ∃ M3, 2 * (k + 1) = M3 := ⟨_, rfl⟩
      have HM3 : Hid ((twos (l.take k) ++ [dig (n / 10), dig (n % 10)]).length = M3) := by
        show _ = _
        rw [List.length_append, twos_len, List.length_take, Nat.min_eq_left (by have := unhide HN; omega), ← hM3]
        rfl
      have HM4 := hide hM3
      clear hp hq hP hQ hg HR hM3
      go_wp2_with (at_builtin; refine wpList_append_row rfl _ _ rfl (.slice sv M cv) (.slice (some ⟨wr.heap.size, 0, none⟩) 2 2) (twos (l.take k)) [dig (n / 10), dig (n % 10)] rfl (unhide HR2) rfl (unhide HY) (unhide Hll) ?_
                   intro v3 W3 hR3
                   obtain ⟨p3, q3, rfl⟩ := hR3.own.form
                   rw [unhide HM3] at hR3 ⊢
                   rw [← unhide HT] at hR3
                   have HR3 := hide hR3
                   clear hR3)
      go_roundw
      case rel =>
        first
          | exact ⟨k + 1, M3, q3, p3, by omega, (unhide HM4).symm, rfl, by go_num, HR3⟩
          | exact ⟨⟨k + 1, M3, q3, p3, by omega, (unhide HM4).symm, rfl, by go_num, HR3⟩, rfl⟩
      case measure => simp [intOf]; omega
    · have f1 : decide ((k : Int) < (N : Int)) = false := by simp; omega
      have f1n : decide (k < N) = false := by simp; omega
      have HY : Hid (BytesAt (wr.alloc (.cells #[.int .u8 90] 5)) (.slice (some ⟨wr.heap.size, 0, none⟩) 1 1) [90]) := bytes_new wr [90]
      have HR2 := hide ((unhide HR).lit (.cells #[.int .u8 90] 5))
      have HT : Hid (l.take k = l) := by show _ = _; rw [List.take_of_length_le]; have := unhide HN; omega
      have Hll : Hid ((twos (l.take k)).length + ([90] : Bs).length ≤ 1073741824) := by
        show _ ≤ _
        rw [twos_len, List.length_take]
        simp
        omega
      clear hlt HR
      go_wp2_with (at_builtin; refine wpList_append_row rfl _ _ rfl (.slice sv M cv) (.slice (some ⟨wr.heap.size, 0, none⟩) 1 1) (twos (l.take k)) [90] rfl (unhide HR2) rfl (unhide HY) (unhide Hll) ?_
                   intro v3 W3 hR3
                   have HR3 := hide hR3
                   clear hR3)
      go_ret
      exact ⟨_, rfl, by have := unhide HR3; rw [unhide HT] at this; exact this⟩
end N
end Go.Proofs.YtcofnockikninaaGreatDoor
/-
  The walk of the landed TimeValue.
-/
namespace Go.Proofs.YtcofnockikninaaGreatDoor
open Go.RowKit
/-- The value of a time on a date. -/
def timeDV (T y m d : Nat) : DV :=
  if y < 2050 then .mk 0 23 false (twos [y % 100, m, d, T % 86400 / 3600, T % 86400 / 60 % 60, T % 86400 % 60] ++ [90]) []
  else .mk 0 24 false (twos [y / 100, y % 100, m, d, T % 86400 / 3600, T % 86400 / 60 % 60, T % 86400 % 60] ++ [90]) []
/-- What is told of a time as a number. -/
def TimeV (t : Int) (er : Nat) (V : DV) : Prop :=
  ((t < 0 ∨ 253402300799 < t) ∧ er = 32 ∧ V = .mk 0 0 false [] []) ∨ (0 ≤ t ∧ t ≤ 253402300799 ∧ er = 0 ∧ ∃ y m d, DateIs (t.toNat / 86400) y m d ∧ V = timeDV t.toNat y m d)
theorem TimeV.one {t : Int} {er er' : Nat} {V V' : DV} (h : TimeV t er V) (k : TimeV t er' V') : er = er' ∧ V = V' := by
  rcases h with ⟨h1, h2, h3⟩ | ⟨h1, h2, h3, y, m, d, h4, h5⟩ <;> rcases k with ⟨k1, k2, k3⟩ | ⟨k1, k2, k3, y', m', d', k4, k5⟩
  · exact ⟨h2.trans k2.symm, h3.trans k3.symm⟩
  · omega
  · omega
  · obtain ⟨rfl, rfl, rfl⟩ := h4.one k4
    exact ⟨h3.trans k3.symm, h5.trans k5.symm⟩
namespace N
open K
/-- The zero value, or one of bytes of the call's own, in five cells. -/
theorem zero_val (S : Nat → Prop) (w : World) : ValAt S w [.int .i64 0, .int .i64 0, .bool false, .slice none 0 0, .slice none 0 0] (.mk 0 0 false [] []) :=
  ⟨1, .slice none 0 0, none, 0, rfl, bytes_nil w, fun h => absurd rfl h, ⟨by simp [DV.bytes], by simp [DV.kids]⟩, by simp [DV.kids], fun _ => rfl, fun h => absurd rfl h⟩
theorem leaf_val {w0 w : World} {x : Value} {b : Bs} (c t : Int) (h : OwnB w w0.heap.size x b) (hl : b.length ≤ 9223372036854775807) : ValAt (fun k => w0.heap.size ≤ k) w [.int .i64 c, .int .i64 t, .bool false, x, .slice none 0 0] (.mk c t false b []) :=
  ⟨1, x, none, 0, rfl, h.bytes, fun _ k hk => OwnV.fresh h k hk, ⟨by simpa [DV.bytes] using hl, by simp [DV.kids]⟩, by simp [DV.kids], fun _ => rfl, fun h => absurd rfl h⟩
theorem own_setRow {w : World} {base R : Nat} {v : Value} {l : Bs} (h : OwnB w base v l) (hR : R < base) (cs : Array Value) : OwnB (w.setRow R cs) base v l := by
  obtain ⟨h1, h2⟩ := h
  refine ⟨h1, ?_⟩
  rcases h2 with h2 | ⟨g, cap, cur, a, b, c, d⟩
  · exact .inl h2
  · exact .inr ⟨g, cap, cur, a, b, by simp only [World.setRow]; rw [Array.getElem?_modify, if_neg (by omega)]; exact c, d⟩
theorem cells_vals {w : World} {B : Nat} {cs : List Value} {T : TypeId} (h : w.heap[B]? = some (.cells cs.toArray T (0, 0))) (k n : Nat) (hn : (cs.drop k).length = n) : ValsAt w (.slice (some ⟨B, k, none⟩) n n) (cs.drop k) := by
  refine ⟨some ⟨B, k, none⟩, n, by rw [hn], by omega, fun e => (by cases e), fun _ => ⟨B, k, rfl, fun j v hv => ?_⟩⟩
  rw [cell_of_row w B _ _ T (0, 0) h]
  rw [List.getElem?_drop] at hv
  simpa using hv
set_option maxRecDepth 100000 in
set_option maxHeartbeats 4000000 in
theorem timev_c (w : World) (t : Int) (h0 : -9223372036854775808 ≤ t) (h1 : t ≤ 9223372036854775807) : Calls Tryz.prog 19 #[.int .i64 t] w fun e w' => ∃ (cs : List Value) (er : Nat) (V : DV), e = .returned (.tuple #[.agg cs.toArray, .int .i64 (er : Int)]) ∧ TimeV t er V ∧ ValAt (fun k => w.heap.size ≤ k) w' cs V ∧ Below w.heap.size w w' := by
  obtain ⟨w1, hw1⟩ : ∃ w1, w.alloc (.cells #[.int .i64 0, .int .i64 0, .bool false, .slice none 0 0, .slice none 0 0] 25) = w1 := ⟨_, rfl⟩
  have HR0 : Hid (Blk w w1 w.heap.size #[.int .i64 0, .int .i64 0, .bool false, .slice none 0 0, .slice none 0 0] 25) := by rw [← hw1]; exact Blk.new (Below.refl _ _) _ _
  obtain ⟨R, hR⟩ : ∃ R, w.heap.size = R := ⟨_, rfl⟩
  rw [hR] at HR0
  have HRe := hide hR
  have H5 : Hid ((#[.int .i64 0, .int .i64 0, .bool false, .slice none 0 0, .slice none 0 0] : Array Value).all (·.oneCell') = true) := by show _ = true; simp [Value.oneCell']
  by_cases hlo : t < 0 ∨ 253402300799 < t
  · have HF : Hid (TimeV t 32 (.mk 0 0 false [] [])) := Or.inl ⟨hlo, rfl, rfl⟩
    obtain ⟨A, hA⟩ : ∃ A, decide (t < 0) = A := ⟨_, rfl⟩
    have d2 : A = false → decide ((253402300799 : Int) < t) = true := fun h => by
      rw [h] at hA
      have := of_decide_eq_false hA
      simp
      omega
    cases A with
    | true =>
      clear d2
      go_enter Tryz.func19, Tryz.ntmps19
      go_wp2_with (refine wpList_store_row rfl 25 _ _ rfl R _ rfl rfl 25 _ (unhide HR0).res value5 rfl (unhide H5) ?_)
      exact bodyPost_ret (res_row_tmp Tryz.results19 _ _ R 25 #[.int .i64 0, .int .i64 0, .bool false, .slice none 0 0, .slice none 0 0] (0, 0) _ rfl ((unhide HR0).set #[.int .i64 0, .int .i64 0, .bool false, .slice none 0 0, .slice none 0 0]).res Tryz.underlying25 rfl value5 _ rfl) rfl ⟨_, 32, _, rfl, unhide HF, zero_val _ _, ((unhide HR0).set #[.int .i64 0, .int .i64 0, .bool false, .slice none 0 0, .slice none 0 0]).b⟩
    | false =>
      have d3 := d2 rfl
      clear d2
      go_enter Tryz.func19, Tryz.ntmps19
      go_wp2_with (refine wpList_store_row rfl 25 _ _ rfl R _ rfl rfl 25 _ (unhide HR0).res value5 rfl (unhide H5) ?_)
      exact bodyPost_ret (res_row_tmp Tryz.results19 _ _ R 25 #[.int .i64 0, .int .i64 0, .bool false, .slice none 0 0, .slice none 0 0] (0, 0) _ rfl ((unhide HR0).set #[.int .i64 0, .int .i64 0, .bool false, .slice none 0 0, .slice none 0 0]).res Tryz.underlying25 rfl value5 _ rfl) rfl ⟨_, 32, _, rfl, unhide HF, zero_val _ _, ((unhide HR0).set #[.int .i64 0, .int .i64 0, .bool false, .slice none 0 0, .slice none 0 0]).b⟩
  obtain ⟨T, rfl⟩ : ∃ T : Nat, t = (T : Int) := ⟨t.toNat, by omega⟩
  have hT : T ≤ 253402300799 := by omega
  obtain ⟨n, hn⟩ : ∃ n, T / 86400 = n := ⟨_, rfl⟩
  obtain ⟨s, hs⟩ : ∃ s, T % 86400 = s := ⟨_, rfl⟩
  obtain ⟨s1, hs1⟩ : ∃ s1, s / 3600 = s1 := ⟨_, rfl⟩
  obtain ⟨s2, hs2⟩ : ∃ s2, s / 60 = s2 := ⟨_, rfl⟩
  obtain ⟨s3, hs3⟩ : ∃ s3, s2 % 60 = s3 := ⟨_, rfl⟩
  obtain ⟨s4, hs4⟩ : ∃ s4, s % 60 = s4 := ⟨_, rfl⟩
  have c1 : decide ((T : Int) < 0) = false := by simp
  have c2 : decide ((253402300799 : Int) < (T : Int)) = false := by simp; omega
  have c2n : decide (253402300799 < T) = false := by simp; omega
  have e1 : (T : Int) / 86400 = (n : Int) := by omega
  have e2 : (T : Int) % 86400 = (s : Int) := by omega
  have e3 : (s : Int) / 3600 = (s1 : Int) := by omega
  have e4 : (s : Int) / 60 = (s2 : Int) := by omega
  have e5 : (s2 : Int) % 60 = (s3 : Int) := by omega
  have e6 : (s : Int) % 60 = (s4 : Int) := by omega
  have b1 : n ≤ 2932896 := by omega
  have b2 : s1 ≤ 99 ∧ s3 ≤ 99 ∧ s4 ≤ 99 := by omega
  have HV : Hid (∀ y m d, timeDV T y m d = if y < 2050 then .mk 0 23 false (twos [y % 100, m, d, s1, s3, s4] ++ [90]) [] else .mk 0 24 false (twos [y / 100, y % 100, m, d, s1, s3, s4] ++ [90]) []) := fun y m d => by
    unfold timeDV
    rw [hs, hs1, hs2, hs3, hs4]
  have Hn := hide hn
  have HD := hide (dateof_c w1 n b1)
  have HTr : Hid (((T : Int)).toNat = T) := by show _ = _; omega
  have Hle : Hid ((T : Int) ≤ 253402300799) := by show _ ≤ _; omega
  clear hn hs hs1 hs2 hs3 hs4 hlo h0 h1
  go_enter Tryz.func19, Tryz.ntmps19
  go_wp2_with fail
  refine (unhide HD).mono ?_
  rintro e w' ⟨y, m, d, rfl, hdate, hw⟩
  obtain rfl := hw
  have hy := hdate.last (by omega)
  have hyy := hdate.y0
  have hm12 := hdate.m1
  have hd31 : d ≤ 31 := Nat.le_trans hdate.d1 (daysP_pos y m).2
  obtain ⟨y1, hy1⟩ : ∃ y1, y / 100 = y1 := ⟨_, rfl⟩
  obtain ⟨y2, hy2⟩ : ∃ y2, y % 100 = y2 := ⟨_, rfl⟩
  have f1 : (y : Int) / 100 = (y1 : Int) := by omega
  have f2 : (y : Int) % 100 = (y2 : Int) := by omega
  have b3 : y1 ≤ 99 ∧ y2 ≤ 99 := by omega
  obtain ⟨w2, hw2⟩ : ∃ w2, w'.alloc (.cells #[.int .i64 (y1 : Int), .int .i64 (y2 : Int), .int .i64 (m : Int), .int .i64 (d : Int), .int .i64 (s1 : Int), .int .i64 (s3 : Int), .int .i64 (s4 : Int)] 91) = w2 := ⟨_, rfl⟩
  obtain ⟨B, hB⟩ : ∃ B, w'.heap.size = B := ⟨_, rfl⟩
  have hM : w2.heap[B]? = some (.cells ([y1, y2, m, d, s1, s3, s4].map nv).toArray 91 (0, 0)) := by rw [← hw2, ← hB]; exact heap_alloc_new w' _
  have hR2 : Blk w w2 R #[.int .i64 0, .int .i64 0, .bool false, .slice none 0 0, .slice none 0 0] 25 := by rw [← hw2]; exact (unhide HR0).lit _
  have HR2 := hide hR2
  have HDt := hide hdate
  have h99 : ∀ k ∈ [y1, y2, m, d, s1, s3, s4], k ≤ 99 := by simp; omega
  by_cases h50 : y < 2050
  · have g1 : decide ((y : Int) < 2050) = true := by simp; omega
    have g1n : decide (y < 2050) = true := by simp; omega
    have Htb := hide (timeb_c w2 (.slice (some ⟨B, 1, none⟩) 6 6) [y2, m, d, s1, s3, s4] (by have := cells_vals hM 1 6 rfl; exact this) (fun k hk => h99 k (List.mem_cons_of_mem _ hk)) (by simp))
    have HF : Hid (∀ V, V = .mk 0 23 false (twos [y2, m, d, s1, s3, s4] ++ [90]) [] → TimeV (T : Int) 0 V) := fun V hV => Or.inr ⟨by omega, unhide Hle, rfl, y, m, d, by rw [unhide HTr, unhide Hn]; exact unhide HDt, by rw [unhide HTr, unhide HV, if_pos h50, hy2]; exact hV⟩
    clear hdate hM hR2 h99 hy1 hy2 HV HD h50
    go_wp2_with (first
      | (go_at_call 52
         refine (unhide Htb).mono ?_
         rintro e w3 ⟨v3, rfl, hrow⟩
         have HR3 := hide ((unhide HR2).call hrow.b)
         obtain ⟨p3, q3, rfl⟩ := hrow.own.form
         have hl3 : (twos [y2, m, d, s1, s3, s4] ++ [90] : Bs).length = 13 := by rw [List.length_append, twos_len]; rfl
         rw [hl3] at hrow ⊢
         have Hrow := hide hrow
         have H6 : Hid ((#[.int .i64 0, .int .i64 23, .bool false, .slice p3 13 q3, .slice none 0 0] : Array Value).all (·.oneCell') = true) := by { show _ = true; simp [Value.oneCell'] }
         clear hrow hl3)
      | (refine wpList_store_row rfl 25 _ _ rfl R _ rfl rfl 25 _ (unhide HR3).res value5 rfl (unhide H6) ?_))
    refine bodyPost_ret (res_row_tmp Tryz.results19 _ _ R 25 #[.int .i64 0, .int .i64 23, .bool false, .slice p3 13 q3, .slice none 0 0] (0, 0) _ rfl ((unhide HR3).set #[.int .i64 0, .int .i64 23, .bool false, .slice p3 13 q3, .slice none 0 0]).res Tryz.underlying25 rfl value5 _ rfl) rfl ⟨_, 0, _, rfl, unhide HF _ rfl, ?_, ((unhide HR3).set #[.int .i64 0, .int .i64 23, .bool false, .slice p3 13 q3, .slice none 0 0]).b⟩
    refine leaf_val (w0 := w) 0 23 ?_ (by rw [List.length_append, twos_len]; simp)
    exact (own_setRow (unhide Hrow).own (unhide HR2).lt _).mono (unhide HR2).b.size
  · have g1 : decide ((y : Int) < 2050) = false := by simp; omega
    have g1n : decide (y < 2050) = false := by simp; omega
    have Htb := hide (timeb_c w2 (.slice (some ⟨B, 0, none⟩) 7 7) [y1, y2, m, d, s1, s3, s4] (by have := cells_vals hM 0 7 rfl; exact this) h99 (by simp))
    have HF : Hid (∀ V, V = .mk 0 24 false (twos [y1, y2, m, d, s1, s3, s4] ++ [90]) [] → TimeV (T : Int) 0 V) := fun V hV => Or.inr ⟨by omega, unhide Hle, rfl, y, m, d, by rw [unhide HTr, unhide Hn]; exact unhide HDt, by rw [unhide HTr, unhide HV, if_neg h50, hy1, hy2]; exact hV⟩
    clear hdate hM hR2 h99 hy1 hy2 HV HD h50
    go_wp2_with (first
      | (go_at_call 52
         refine (unhide Htb).mono ?_
         rintro e w3 ⟨v3, rfl, hrow⟩
         have HR3 := hide ((unhide HR2).call hrow.b)
         obtain ⟨p3, q3, rfl⟩ := hrow.own.form
         have hl3 : (twos [y1, y2, m, d, s1, s3, s4] ++ [90] : Bs).length = 15 := by rw [List.length_append, twos_len]; rfl
         rw [hl3] at hrow ⊢
         have Hrow := hide hrow
         have H6 : Hid ((#[.int .i64 0, .int .i64 24, .bool false, .slice p3 15 q3, .slice none 0 0] : Array Value).all (·.oneCell') = true) := by { show _ = true; simp [Value.oneCell'] }
         clear hrow hl3)
      | (refine wpList_store_row rfl 25 _ _ rfl R _ rfl rfl 25 _ (unhide HR3).res value5 rfl (unhide H6) ?_))
    refine bodyPost_ret (res_row_tmp Tryz.results19 _ _ R 25 #[.int .i64 0, .int .i64 24, .bool false, .slice p3 15 q3, .slice none 0 0] (0, 0) _ rfl ((unhide HR3).set #[.int .i64 0, .int .i64 24, .bool false, .slice p3 15 q3, .slice none 0 0]).res Tryz.underlying25 rfl value5 _ rfl) rfl ⟨_, 0, _, rfl, unhide HF _ rfl, ?_, ((unhide HR3).set #[.int .i64 0, .int .i64 24, .bool false, .slice p3 15 q3, .slice none 0 0]).b⟩
    refine leaf_val (w0 := w) 0 24 ?_ (by rw [List.length_append, twos_len]; simp)
    exact (own_setRow (unhide Hrow).own (unhide HR2).lt _).mono (unhide HR2).b.size
end N
end Go.Proofs.YtcofnockikninaaGreatDoor
