/-
  The walk of the landed put: a right value's bytes, behind a row.
-/
import Derived.Test.YtcofnockikninabGreatDoorMB
namespace Go.Proofs.YtcofnockikninabGreatDoor
open Go.RowKit
namespace K
theorem made_room {P : Program} {t e : TypeId} {z : Value} {by_ : Nat} (E : Elem P t e z by_) (w : World) (k1 k2 : IntKind) (n : Nat) (x : Int) (hx : x = (n : Int)) (hn : n ≤ 1073741824) :
    ∃ W, (Instr.makeSlice t (.int k1 0) (.int k2 x)).run P w = .ok (.slice (some ⟨w.heap.size, 0, none⟩) 0 n) W ∧ OwnV e W w.heap.size (.slice (some ⟨w.heap.size, 0, none⟩) 0 n) [] ∧ Below w.heap.size w W := by
  subst hx
  obtain ⟨hu, ⟨i, hi, h0, hsz, hby⟩, _, hsmall⟩ := E
  have hbn : i.bytes * n ≤ 281474976710656 := by
    rw [hby]
    have := Nat.mul_le_mul hsmall hn
    omega
  obtain ⟨W, hr, ho, hg⟩ := run_make_own (P := P) w w.heap.size t e i z 1 hu hi h0 hsz k1 k2 n hbn (by simp only [maxLen]; omega) (Nat.le_refl _)
  exact ⟨W, hr, ho, (Below.refl _ _).grown hg (Nat.le_refl _) (fun k hk => by cases hk)⟩
theorem grow_trans {a b c : World} {r r' : Option Nat} (h1 : a.grownBy b r) (h2 : b.grownBy c r') (hr : ∀ g, r' = some g → r = some g ∨ a.heap.size ≤ g) : a.grownBy c r :=
  ⟨h2.os.trans h1.os, h2.tape.trans h1.tape, h2.output.trans h1.output, Nat.le_trans h1.size h2.size, fun k hk hne => by
    rw [h2.block k (Nat.lt_of_lt_of_le hk h1.size) (fun e => by
      rcases hr k e.symm with h | h
      · exact hne h.symm
      · omega), h1.block k hk hne]⟩
theorem grow_below {a b : World} (h : Below a.heap.size a b) (r : Option Nat) : a.grownBy b r := ⟨h.os, h.tape, h.output, h.size, fun k hk _ => h.block k hk⟩
/-- A row that grew: what else lies there is as it was. -/
structure Grown (w w' : World) (v v' : Value) : Prop where
  g : w.grownBy w' v.ownBlock
  o : ∀ k, v'.ownBlock = some k → v.ownBlock = some k ∨ w.heap.size ≤ k
theorem Grown.refl (w : World) (v : Value) : Grown w w v v := ⟨World.grownBy.refl _ _, fun _ h => Or.inl h⟩
theorem Grown.trans {a b c : World} {u v x : Value} (h1 : Grown a b u v) (h2 : Grown b c v x) : Grown a c u x :=
  ⟨grow_trans h1.g h2.g (fun k hk => h1.o k hk), fun k hk => by
    rcases h2.o k hk with h | h
    · exact h1.o k h
    · exact Or.inr (Nat.le_trans h1.g.size h)⟩
theorem Grown.call {a b c : World} {u v : Value} (h1 : Grown a b u v) (h2 : Below b.heap.size b c) : Grown a c u v := h1.trans ⟨grow_below h2 _, fun _ h => Or.inl h⟩
theorem Grown.of {w w' : World} {v v' : Value} (h1 : w.grownBy w' v.ownBlock) (h2 : v'.ownBlock = v.ownBlock ∨ v'.ownBlock = some w.heap.size) : Grown w w' v v' :=
  ⟨h1, fun k hk => by
    rcases h2 with h | h
    · rw [h] at hk; exact Or.inl hk
    · rw [h] at hk; simp only [Option.some.injEq] at hk; exact Or.inr (by omega)⟩
/-- A block that isn't the row's stays. -/
theorem Grown.keep {a b w0 : World} {u v : Value} {A : Nat} {cs : Array Value} {T : TypeId} (h : Grown a b u v) (hA : Blk w0 a A cs T) (hne : u.ownBlock ≠ some A) (hb : Below w0.heap.size w0 b) : Blk w0 b A cs T ∧ v.ownBlock ≠ some A :=
  ⟨⟨by rw [h.g.block A hA.lt (fun e => hne e.symm)]; exact hA.res, hb, hA.ge⟩, fun e => by
    rcases h.o A e with h1 | h1
    · exact hne h1
    · have := hA.lt; omega⟩
def PutC (n : Nat) : Prop := ∀ (f : Nat) (wb w : World) (v : DV) (cs : List Value) (W : Bs) (row : Value) (l : Bs), VAt n (fun b => b < wb.heap.size) wb cs v → weight v ≤ 1000000 → writeP formD f v = .yes W → Row wb w row l → l.length + W.length ≤ 20000000 → Calls Tryz.prog 64 #[row, .agg cs.toArray] w fun e w' => ∃ v', e = .returned v' ∧ Row wb w' v' (l ++ W) ∧ Grown w w' row v'
set_option maxRecDepth 100000 in
set_option maxHeartbeats 16000000 in
theorem put_step (n : Nat) (hp : PutC n) : PutC (n + 1) := fun f wb w v cs W row l hv hw hW hrow hl => by
  cases f with
  | zero => simp [writeP] at hW
  | succ f =>
  obtain ⟨c, t, hc, ht, hc3, ht2⟩ := right_nums hW
  have hWl : W.length ≤ 9000000 := by have := out_le _ v W hw hW; omega
  obtain ⟨c', t', m, bs, ks⟩ := v
  simp only [DV.cls, DV.tag] at hc ht
  subst hc ht
  obtain ⟨s1, c1, sk, ck, e⟩ := hv.form
  simp only [DV.cls, DV.tag, DV.made, DV.bytes, DV.kids] at e
  subst e
  obtain ⟨rs, rc, er⟩ := hrow.own.form
  obtain ⟨RL, hRL⟩ : ∃ RL, l.length = RL := ⟨_, rfl⟩
  rw [hRL] at er
  subst er
  have hby : BytesAt wb (.slice s1 bs.length c1) bs := by
    obtain ⟨xb, _, _, e, h2, _⟩ := hv
    simp only [dcells, List.cons.injEq] at e
    rw [e.2.2.2.1]
    exact h2
  have Hin : Hid (∀ Wd, Below wb.heap.size wb Wd → Calls Tryz.prog 88 #[.agg (dcells (c : Int) (t : Int) m (.slice s1 bs.length c1) (.slice sk ks.length ck)).toArray] Wd fun e w' => ∃ (N : Nat) (X : Bs), e = .returned (.int .i64 (N : Int)) ∧ Body (.mk (c : Int) (t : Int) m bs ks) W N X ∧ N ≤ 9000000 ∧ Below Wd.heap.size Wd w') := fun Wd hb => inner_all (n + 1) _ _ _ Wd _ W (hv.below hb) hw hW
  have HBod : Hid (∀ N X, N ≤ 9000000 → Body (.mk (c : Int) (t : Int) m bs ks) W N X → ∃ xs, allP (writeP formD f) ks = .yes xs ∧ W = tagB c t m ++ lenB N ++ (bs ++ xs.flatten)) := fun N X hN hB => by
    obtain ⟨xs, hxs, hX, _, _⟩ := body_parts hW (by omega) (by omega) hB
    refine ⟨xs, hxs, ?_⟩
    rw [← hX]
    exact hB.1
  have HBy : Hid (∀ Wd, Below wb.heap.size wb Wd → BytesAt Wd (.slice s1 bs.length c1) bs) := fun Wd hb => hby.below hb
  have HKid : Hid (∀ (xs : List Bs) (i : Nat), allP (writeP formD f) ks = .yes xs → i < ks.length → ∃ (k : DV) (ba oa : Nat) (ds : List Value) (x : Bs), sk = some ⟨ba, oa, none⟩ ∧ ba < wb.heap.size ∧ xs[i]? = some x ∧ CellsAt wb ba (oa + i * 5) ds ∧ VAt n (fun b => b < wb.heap.size) wb ds k ∧ weight k ≤ 1000000 ∧ writeP formD f k = .yes x) := fun xs i hxs hi => by
    have hik : ks[i]? = some ks[i] := List.getElem?_eq_getElem hi
    obtain ⟨ba, oa, ds, q1, q2, q3⟩ := kid_at hv i _ hik
    obtain ⟨x, hx, hg⟩ := (all_get hxs).2 i _ hik
    have hwk := weight_kid hik
    have hlen := q3.len
    obtain ⟨u, hu⟩ : ∃ u, ds[0]? = some u := ⟨_, List.getElem?_eq_getElem (by omega)⟩
    exact ⟨_, ba, oa, ds, x, q1, World.block_lt_of_cell? wb _ (q2 0 u hu), hx, q2, q3, by simp only [weight] at hw; omega, hg⟩
  have hkl := weights_len ks
  have hwt : bs.length + weights ks ≤ 1000000 := by simp only [weight] at hw; omega
  have HW := hide hWl
  have Hp := hide hp
  have HRow := hide hrow
  have HlW : Hid (RL + W.length ≤ 20000000) := by show _ ≤ _; rw [← hRL]; exact hl
  have HRL := hide hRL
  obtain ⟨L, hL⟩ : ∃ L, bs.length = L := ⟨_, rfl⟩
  obtain ⟨K, hK⟩ : ∃ K, ks.length = K := ⟨_, rfl⟩
  have HK := hide hK
  have HL := hide hL
  have hKb : K ≤ 1000000 := by omega
  rw [hL] at Hin HBy
  rw [hK] at Hin HKid
  rw [hL, hK]
  unfold dcells at Hin ⊢
  have hA := Blk.new hrow.b #[.int .i64 (c : Int), .int .i64 (t : Int), .bool m, .slice s1 L c1, .slice sk K ck] 36
  have hr1 := hrow.lit (.cells #[.int .i64 (c : Int), .int .i64 (t : Int), .bool m, .slice s1 L c1, .slice sk K ck] 36)
  obtain ⟨w1, hw1⟩ : ∃ w1, w.alloc (.cells #[.int .i64 (c : Int), .int .i64 (t : Int), .bool m, .slice s1 L c1, .slice sk K ck] 36) = w1 := ⟨_, rfl⟩
  have hna : (Value.slice rs RL rc).ownBlock ≠ some w.heap.size := fun e => by
    have hh := hrow.own
    unfold OwnB OwnV at hh
    rcases hh.2 with ⟨h1, _⟩ | ⟨g, cap, cur, h1, _, h2, _⟩
    · rw [h1] at e; cases e
    · rw [h1] at e
      simp only [Value.ownBlock, Option.some.injEq] at e
      have := (Array.getElem?_eq_some_iff.1 h2).1
      omega
  obtain ⟨A, eA⟩ : ∃ A, w.heap.size = A := ⟨_, rfl⟩
  have hgr1 : Grown w w1 (.slice rs RL rc) (.slice rs RL rc) := by rw [← hw1]; exact (Grown.refl w _).call ((Below.refl _ _).alloc (Nat.le_refl _) _)
  rw [hw1, eA] at hA
  rw [hw1] at hr1
  rw [eA] at hna
  have k0 := hA.cell 0 _ rfl
  have k1 := hA.cell 1 _ rfl
  have k2 := hA.cell 2 _ rfl
  have k3 := hA.cell 3 _ rfl
  have k4 := hA.cell 4 _ rfl
  have HA := hide hA.drew
  have HR := hide (show Row wb w1.drew (.slice rs RL rc) l from ⟨hr1.own, hr1.b.drew⟩)
  have HG : Hid (Grown w w1.drew (.slice rs RL rc) (.slice rs RL rc)) := hgr1.call (Below.refl _ _).drew
  have Hhd : Hid (∀ (N : Nat) (Wd : World), N ≤ 9000000 → GivesB Wd 89 #[.agg #[.int .i64 (c : Int), .int .i64 (t : Int), .bool m, .slice s1 L c1, .slice sk K ck], .int .i64 (N : Int)] (tagB c t m ++ lenB N)) := fun N Wd hN => head_c c t N m s1 sk L c1 K ck Wd hc3 ht2 (by omega)
  unfold GivesB at Hhd
  have Hll : Hid (∀ N, N ≤ 9000000 → l.length + (tagB c t m ++ lenB N).length ≤ 1073741824) := fun N hN => by
    have h1 := len_tagB_le c t m
    have h2 := lenB_le (n := N) (by omega)
    rw [List.length_append]
    omega
  have HNA := hide hna
  clear hA hr1 hgr1 hv hw hW hby hrow hp hna hRL hL hK
  go_enter Tryz.func64, Tryz.ntmps64
  go_wp2
  go_region_held3 (fun w' => w'.cell? ⟨A, 0, none⟩ = some (.int .i64 (c : Int)) ∧ w'.cell? ⟨A, 1, none⟩ = some (.int .i64 (t : Int)) ∧ w'.cell? ⟨A, 2, none⟩ = some (.bool m) ∧ w'.cell? ⟨A, 3, none⟩ = some (.slice s1 L c1) ∧ w'.cell? ⟨A, 4, none⟩ = some (.slice sk K ck)) (go_keep)
    ((first
          | (go_at_call 88
             refine (unhide Hin _ (unhide HR).b).mono ?_
             rintro e w2 ⟨N, X, rfl, hbo, hN, hb2⟩
             have HBo := hide hbo
             have HA2 := hide ((unhide HA).call hb2)
             have HR2 := hide ((unhide HR).call hb2)
             have HG2 := hide ((unhide HG).call hb2)
             clear k0 k1 k2 k3 k4 hbo hb2
             have k0 := (unhide HA2).cell 0 _ rfl; have k1 := (unhide HA2).cell 1 _ rfl; have k2 := (unhide HA2).cell 2 _ rfl; have k3 := (unhide HA2).cell 3 _ rfl; have k4 := (unhide HA2).cell 4 _ rfl)
          | (go_at_call 89
             refine (unhide Hhd N _ hN).mono ?_
             rintro e w3 ⟨z3, rfl, hR3⟩
             have HY3 := hide hR3.bytes
             have HA3 := hide ((unhide HA2).call hR3.b)
             have HR3 := hide ((unhide HR2).call hR3.b)
             have HG3 := hide ((unhide HG2).call hR3.b)
             clear k0 k1 k2 k3 k4 hR3
             have k0 := (unhide HA3).cell 0 _ rfl; have k1 := (unhide HA3).cell 1 _ rfl; have k2 := (unhide HA3).cell 2 _ rfl; have k3 := (unhide HA3).cell 3 _ rfl; have k4 := (unhide HA3).cell 4 _ rfl)
          | (refine step_append_row rfl _ _ rfl (.slice rs RL rc) z3 l (tagB c t m ++ lenB N) (by simp [Act.eval]) (unhide HR3) (by simp [Act.eval]) (unhide HY3) (unhide Hll N hN) ?_
             intro v4 w4 hR4 hG4
             obtain ⟨s4, c4, ev4⟩ := hR4.own.form
             obtain ⟨M4, hM4⟩ : ∃ M4, (l ++ (tagB c t m ++ lenB N)).length = M4 := ⟨_, rfl⟩
             rw [hM4] at ev4
             subst ev4
             clear hM4
             have hgr := Grown.of hG4.1 hG4.2
             obtain ⟨hA4, hn4⟩ := hgr.keep (unhide HA3) (unhide HNA) hR4.b
             have HA4 := hide hA4
             have HN4 := hide hn4
             have HG4 := hide ((unhide HG3).trans hgr)
             have HR4 := hide hR4
             clear hR4 hG4 hgr hA4 hn4
             clear k0 k1 k2 k3 k4
             have k0 := (unhide HA4).cell 0 _ rfl; have k1 := (unhide HA4).cell 1 _ rfl; have k2 := (unhide HA4).cell 2 _ rfl; have k3 := (unhide HA4).cell 3 _ rfl; have k4 := (unhide HA4).cell 4 _ rfl)))
  clear hw1 HA HR HG HA2 HR2 HG2 HA3 HR3 HG3 HY3 Hhd Hin Hll HNA
  obtain ⟨xs, hxs, hWe⟩ := unhide HBod N X hN (unhide HBo)
  have hxl := (all_get hxs).1
  rw [unhide HK] at hxl
  obtain ⟨H0, hH0⟩ : ∃ H0, tagB c t m ++ lenB N = H0 := ⟨_, rfl⟩
  rw [hH0] at hWe
  simp only [hH0] at HR4
  have hWlen : H0.length + (bs.length + xs.flatten.length) ≤ 9000000 := by
    have h1 := unhide HW
    rw [hWe, List.length_append, List.length_append] at h1
    exact h1
  have HY5 := hide (unhide HBy w4 (unhide HR4).b)
  have Hxs := hide hxs
  have HWe := hide hWe
  have Hxl := hide hxl
  have Hwl := hide hWlen
  have HWl2 : Hid (RL + (H0.length + (bs.length + xs.flatten.length)) ≤ 20000000) := by
    have h1 := unhide HlW
    rw [hWe, List.length_append, List.length_append] at h1
    exact h1
  have Hll2 : Hid ((l ++ H0).length + bs.length ≤ 1073741824) := by show _ ≤ _; have h3 := unhide HWl2; rw [List.length_append, unhide HRL]; omega
  clear hxs hWe hxl hWlen hH0 HBod HBo HBy
  go_upto_region 3 with (at_builtin; refine wpList_append_bytes rfl _ _ rfl wb.heap.size (.slice s4 M4 c4) (.slice s1 L c1) (l ++ H0) bs rfl (unhide HR4).own rfl (unhide HY5) (unhide HR4).b.size (unhide Hll2) ?_
                         intro v5 w5 hO5 hg5 hor5
                         have HO5 := hide hO5
                         have HGr5 := hide (Grown.of hg5 hor5)
                         have HBg5 := hide (ownb_below (unhide HR4).own hg5 (unhide HR4).b (unhide HR4).b.size)
                         clear hO5 hg5 hor5)
  have HR5 : Hid (Row wb w5 v5 (l ++ H0 ++ bs)) := ⟨unhide HO5, unhide HBg5⟩
  obtain ⟨hA5, hn5⟩ := (unhide HGr5).keep (unhide HA4) (unhide HN4) (unhide HR5).b
  have HG5 := hide ((unhide HG4).trans (unhide HGr5))
  have HA5 := hide hA5
  have HN5 := hide hn5
  have j4 := hA5.cell 4 _ rfl
  obtain ⟨s5, c5, ev5⟩ := (unhide HR5).own.form
  clear hA5 hn5 HO5 HGr5 HBg5 HA4 HN4 HG4 HR4 HY5 Hll2 k0 k1 k2 k3 k4
  obtain ⟨M5, hM5⟩ : ∃ M5, (l ++ H0 ++ bs).length = M5 := ⟨_, rfl⟩
  rw [hM5] at ev5
  subst ev5
  clear hM5
  go_wp2
  clear j4
  go_loopw [0, 20] (fun bb ii wr => ∃ (i : Nat) (sv : Option Addr) (M cv : Nat), i ≤ K ∧ bb = .slice sv M cv ∧ ii = .int .i64 (i : Int) ∧ Hid (Row wb wr (.slice sv M cv) (l ++ H0 ++ bs ++ (xs.take i).flatten)) ∧ Hid (Grown w wr (.slice rs RL rc) (.slice sv M cv))) (fun _ ii _ => K - (intOf ii).toNat)
  case atStart => exact ⟨0, s5, M5, c5, by omega, rfl, rfl, by rw [List.take_zero, List.flatten_nil, List.append_nil]; exact unhide HR5, HG5⟩
  case round =>
    obtain ⟨i, sv, M, cv, hi, rfl, rfl, HRr, HGr⟩ := hrel
    clear HR5 HG5 HA5 HN5
    by_cases hlt : i < K
    · obtain ⟨k, ba, oa, ds, x, rfl, hbalt, hx, g1, v1, hkw, hkx⟩ := unhide HKid xs i (unhide Hxs) hlt
      obtain ⟨p1, q1, p2, q2, rfl⟩ := v1.form
      obtain ⟨x0, x1, x2, x3, x4⟩ := (g1.below (unhide HRr).b).five
      have d1 : decide ((i : Int) < (K : Int)) = true := by simp; omega
      have d1n : decide (i < K) = true := by simp; omega
      have i0 : (0 : Int) ≤ (i : Int) := by omega
      have i1 : (i : Int) < (K : Int) := by omega
      obtain ⟨kc, hkc⟩ : ∃ kc, k.cls = kc := ⟨_, rfl⟩
      obtain ⟨kt, hkt⟩ : ∃ kt, k.tag = kt := ⟨_, rfl⟩
      obtain ⟨km, hkm⟩ : ∃ km, k.made = km := ⟨_, rfl⟩
      obtain ⟨kl, hkl3⟩ : ∃ kl, k.bytes.length = kl := ⟨_, rfl⟩
      obtain ⟨kn, hkk⟩ : ∃ kn, k.kids.length = kn := ⟨_, rfl⟩
      simp only [hkc, hkt, hkm, hkl3, hkk] at x0 x1 x2 x3 x4 v1
      have hC := Blk.new (unhide HRr).b #[.int .i64 kc, .int .i64 kt, .bool km, .slice p1 kl q1, .slice p2 kn q2] 36
      have hR6 := (unhide HRr).lit (.cells #[.int .i64 kc, .int .i64 kt, .bool km, .slice p1 kl q1, .slice p2 kn q2] 36)
      have hG6 := (unhide HGr).call ((Below.refl _ _).alloc (Nat.le_refl _) (.cells #[.int .i64 kc, .int .i64 kt, .bool km, .slice p1 kl q1, .slice p2 kn q2] 36))
      obtain ⟨w6, hw6⟩ : ∃ w6, wr.alloc (.cells #[.int .i64 kc, .int .i64 kt, .bool km, .slice p1 kl q1, .slice p2 kn q2] 36) = w6 := ⟨_, rfl⟩
      obtain ⟨E, eE⟩ : ∃ E, wr.heap.size = E := ⟨_, rfl⟩
      rw [hw6] at hC hR6 hG6
      rw [eE] at hC
      have hfl := flat_take hx
      have Hlx : Hid ((l ++ H0 ++ bs ++ (xs.take i).flatten).length + x.length ≤ 20000000) := by
        show _ ≤ _
        have h1 := unhide Hwl
        have h2 : xs.flatten.length = (xs.take (i + 1)).flatten.length + (xs.drop (i + 1)).flatten.length := by rw [← List.length_append, ← List.flatten_append, List.take_append_drop]
        have h3 := unhide HWl2
        simp only [List.length_append, unhide HRL]
        omega
      have HEx : Hid (l ++ H0 ++ bs ++ (xs.take i).flatten ++ x = l ++ H0 ++ bs ++ (xs.take (i + 1)).flatten) := by
        show _ = _
        rw [List.take_add_one, hx, List.flatten_append]
        simp
      have Hpk := hide (unhide Hp f wb w6 k _ x (.slice sv M cv) _ v1 hkw hkx hR6 (unhide Hlx))
      unfold dcells at Hpk
      have y0 := hC.cell 0 _ rfl
      have y1 := hC.cell 1 _ rfl
      have y2 := hC.cell 2 _ rfl
      have y3 := hC.cell 3 _ rfl
      have y4 := hC.cell 4 _ rfl
      have HG6 := hide hG6
      clear hC hR6 hG6 g1 v1 hkw hkx hx hkc hkt hkm hkl3 hkk HRr HGr hfl hbalt HKid
      go_wp2_with fail
      refine (unhide Hpk).mono ?_
      rintro e w7 ⟨v7, rfl, hR7, hG7⟩
      obtain ⟨s7, c7, ev7⟩ := hR7.own.form
      rw [unhide HEx] at hR7
      obtain ⟨M7, hM7⟩ : ∃ M7, (l ++ H0 ++ bs ++ (xs.take i).flatten ++ x).length = M7 := ⟨_, rfl⟩
      rw [hM7] at ev7
      subst ev7
      have HR7 := hide hR7
      have HG7 := hide ((unhide HG6).trans hG7)
      clear hR7 hG7 hM7 Hpk HG6 y0 y1 y2 y3 y4 x0 x1 x2 x3 x4 HEx Hlx
      go_wp2
      go_roundw
      case rel =>
        exact ⟨i + 1, s7, M7, c7, by omega, rfl, by go_num, HR7, HG7⟩
      case measure => simp [intOf]; omega
    · have hiK : i = K := by omega
      have HF : Hid (Row wb wr (.slice sv M cv) (l ++ W)) := by
        have h1 := unhide HRr
        rw [List.take_of_length_le (by rw [unhide Hxl]; omega), List.append_assoc, List.append_assoc] at h1
        rw [unhide HWe]
        exact h1
      have d1 : decide ((i : Int) < (K : Int)) = false := by simp; omega
      have d1n : decide (i < K) = false := by simp; omega
      clear hiK HRr
      go_wp2
      go_ret
      exact ⟨_, rfl, unhide HF, unhide HGr⟩
theorem put_all : ∀ n, PutC n
  | 0 => fun _ _ _ _ _ _ _ _ h => h.elim
  | n + 1 => put_step n (put_all n)
end K
end Go.Proofs.YtcofnockikninabGreatDoor
/-
  The walk of the landed Write.
-/
namespace Go.Proofs.YtcofnockikninabGreatDoor
open Go.RowKit
namespace K
set_option maxRecDepth 100000 in
set_option maxHeartbeats 16000000 in
theorem write_c (w : World) (S : Nat → Prop) (cs : List Value) (v : DV) (hT : Tabs w) (hv : ValAt S w cs v) (hw : weight v ≤ 1000000) :
    Calls Tryz.prog 41 #[.agg cs.toArray] w fun e w' => ∃ x, e = .returned (.tuple #[x, .int .i64 (errOf (writeTop formD v) : Int)]) ∧ OwnB w' w.heap.size x (bytesOf (writeTop formD v)) ∧ Below w.heap.size w w' := by
  obtain ⟨n, hv⟩ := hv
  have hv := hv.mono (S' := fun b => b < w.heap.size) (fun b _ hb => hb)
  obtain ⟨s1, c1, sk, ck, e⟩ := hv.form
  obtain ⟨c, hc⟩ : ∃ c, v.cls = c := ⟨_, rfl⟩
  obtain ⟨t, ht⟩ : ∃ t, v.tag = t := ⟨_, rfl⟩
  obtain ⟨m, hm⟩ : ∃ m, v.made = m := ⟨_, rfl⟩
  obtain ⟨L, hL⟩ : ∃ L, v.bytes.length = L := ⟨_, rfl⟩
  obtain ⟨K, hK⟩ : ∃ K, v.kids.length = K := ⟨_, rfl⟩
  rw [hc, ht, hm, hL, hK] at e
  subst e
  have HT0 : Hid (writeTop formD v = match writeP formD 17 v with | .no e => .no e | .yes b => if 65536 < b.length then .no 54 else .yes b) := by show _ = _; unfold writeTop; rfl
  obtain ⟨R, hR⟩ : ∃ R, writeTop formD v = R := ⟨_, rfl⟩
  rw [hR] at HT0
  rw [hR]
  have HV := hide hv
  have Hwt := hide hw
  have HTab := hide hT
  have hA := Blk.new (Below.refl w.heap.size w) #[.int .i64 c, .int .i64 t, .bool m, .slice s1 L c1, .slice sk K ck] 36
  obtain ⟨w1, hw1⟩ : ∃ w1, w.alloc (.cells #[.int .i64 c, .int .i64 t, .bool m, .slice s1 L c1, .slice sk K ck] 36) = w1 := ⟨_, rfl⟩
  obtain ⟨A, eA⟩ : ∃ A, w.heap.size = A := ⟨_, rfl⟩
  rw [hw1, eA] at hA
  have Hck := hide (check_all 17 n _ v w1 _ 0 (hv.below hA.b) hw (hT.below hA.b) rfl)
  unfold dcells at Hck ⊢
  have k0 := hA.cell 0 _ rfl
  have k1 := hA.cell 1 _ rfl
  have k2 := hA.cell 2 _ rfl
  have k3 := hA.cell 3 _ rfl
  have k4 := hA.cell 4 _ rfl
  have HA := hide hA
  obtain ⟨er, her⟩ : ∃ er, errOf (writeP formD 17 v) = er := ⟨_, rfl⟩
  rw [her] at Hck
  have Her := hide her
  clear hA hv hw hT hR her hc ht hm hL hK
  go_enter Tryz.func41, Tryz.ntmps41
  go_wp2_with fail
  refine (unhide Hck).mono ?_
  rintro e w2 ⟨rfl, hb2⟩
  have HA2 := hide ((unhide HA).call hb2)
  clear hb2 Hck k0 k1 k2 k3 k4 HA hw1
  cases hg : writeP formD 17 v with
  | no e' =>
    have h1 := unhide Her
    rw [hg] at h1
    have h2 : e' = er := h1
    have hne := write_pos formD 17 v e' hg
    have HE : Hid (errOf R = er ∧ bytesOf R = []) := by
      have h3 := unhide HT0
      rw [hg] at h3
      have h4 : R = .no e' := h3
      rw [h4]
      exact ⟨h2, rfl⟩
    have z0 : ((er : Int) == 0) = false := by simp; omega
    have z0' : ((er : Int) != 0) = true := by simp; omega
    clear HT0 hg h1 h2 hne Her
    go_wp2
    go_ret2
    exact ⟨.slice none 0 0, by rw [(unhide HE).1]; rfl, by rw [(unhide HE).2]; exact ownb_nil _ _, by first | exact (unhide HA2).b | (rw [← eA]; exact (unhide HA2).b)⟩
  | yes W =>
    have h1 := unhide Her
    rw [hg] at h1
    have h2 : 0 = er := h1
    have z0 : ((er : Int) == 0) = true := by simp; omega
    have z0' : ((er : Int) != 0) = false := by simp; omega
    have HR : Hid (R = if 65536 < W.length then .no 54 else .yes W) := by
      have h3 := unhide HT0
      rw [hg] at h3
      exact h3
    have hWl : W.length ≤ 9000000 := by have := out_le 17 v W (unhide Hwt) hg; have := unhide Hwt; omega
    have Hsz := hide (size_all n 17 _ v w2 _ W ((unhide HV).below (unhide HA2).b) (unhide Hwt) hg)
    unfold dcells at Hsz
    obtain ⟨N, hN⟩ : ∃ N, W.length = N := ⟨_, rfl⟩
    rw [hN] at Hsz HR hWl
    have HN := hide hN
    have HW := hide hg
    have k0 := (unhide HA2).cell 0 _ rfl
    have k1 := (unhide HA2).cell 1 _ rfl
    have k2 := (unhide HA2).cell 2 _ rfl
    have k3 := (unhide HA2).cell 3 _ rfl
    have k4 := (unhide HA2).cell 4 _ rfl
    clear HT0 hg h1 h2 Her hN
    go_wp2_with fail
    refine (unhide Hsz).mono ?_
    rintro e w3 ⟨rfl, hb3⟩
    have hA3 := (unhide HA2).call hb3
    have HA3 := hide hA3
    clear hb3 Hsz k0 k1 k2 k3 k4 HA2
    by_cases hbig : 65536 < N
    · have d1 : decide ((65536 : Int) < (N : Int)) = true := by simp; omega
      have d1n : decide (65536 < N) = true := by simp; omega
      have HE : Hid (errOf R = 54 ∧ bytesOf R = []) := by rw [unhide HR, if_pos hbig]; exact ⟨rfl, rfl⟩
      clear hA3
      go_wp2
      go_ret2
      exact ⟨.slice none 0 0, by rw [(unhide HE).1]; rfl, by rw [(unhide HE).2]; exact ownb_nil _ _, by first | exact (unhide HA3).b | (rw [← eA]; exact (unhide HA3).b)⟩
    have d1 : decide ((65536 : Int) < (N : Int)) = false := by simp; omega
    have d1n : decide (65536 < N) = false := by simp; omega
    have HE : Hid (errOf R = 0 ∧ bytesOf R = W) := by rw [unhide HR, if_neg hbig]; exact ⟨rfl, rfl⟩
    obtain ⟨w4, hmk, hown, hbel⟩ := made_room Eb w3.drew .i64 .i64 N (N : Int) rfl (by omega)
    have k0 := hA3.cell 0 _ rfl
    have k1 := hA3.cell 1 _ rfl
    have k2 := hA3.cell 2 _ rfl
    have k3 := hA3.cell 3 _ rfl
    have k4 := hA3.cell 4 _ rfl
    have hA4 := hA3.drew.call hbel
    have j0 := hA4.cell 0 _ rfl
    have j1 := hA4.cell 1 _ rfl
    have j2 := hA4.cell 2 _ rfl
    have j3 := hA4.cell 3 _ rfl
    have j4 := hA4.cell 4 _ rfl
    have Hput := hide (put_all n 17 w3.drew w4 v _ W (.slice (some ⟨w3.drew.heap.size, 0, none⟩) 0 N) [] (((unhide HV).mono (S' := fun b => b < w3.drew.heap.size) (fun b hb _ => Nat.lt_of_lt_of_le hb hA3.b.size)).below hA3.drew.b) (unhide Hwt) (unhide HW) ⟨hown, hbel⟩ (by rw [unhide HN]; simp; omega))
    unfold dcells at Hput
    have Hbb := hide hA3.drew.b
    have HA3d := hide hA3.drew
    clear hA3 hA4 hown hbel HR HA3
    go_wp2
    go_region_held3 (fun w' => w'.cell? ⟨A, 0, none⟩ = some (.int .i64 c) ∧ w'.cell? ⟨A, 1, none⟩ = some (.int .i64 t) ∧ w'.cell? ⟨A, 2, none⟩ = some (.bool m) ∧ w'.cell? ⟨A, 3, none⟩ = some (.slice s1 L c1) ∧ w'.cell? ⟨A, 4, none⟩ = some (.slice sk K ck)) (go_keep)
      ((first
          | (go_at_call 64
             refine (unhide Hput).mono ?_
             rintro e w5 ⟨v5, rfl, hR5, hG5⟩
             have HR5 := hide hR5
             have hA5 := (unhide HA3d).call hR5.b
             have i0 := hA5.cell 0 _ rfl; have i1 := hA5.cell 1 _ rfl; have i2 := hA5.cell 2 _ rfl; have i3 := hA5.cell 3 _ rfl; have i4 := hA5.cell 4 _ rfl
             clear hR5 hG5 hA5)))
    have HO : Hid (OwnB w5 w.heap.size v5 W) := by
      have h1 := (unhide HR5).own
      rw [List.nil_append] at h1
      exact h1.mono (unhide Hbb).size
    have HBf := hide ((unhide Hbb).trans ((unhide HR5).b.mono (unhide Hbb).size))
    clear i0 i1 i2 i3 i4 j0 j1 j2 j3 j4 k0 k1 k2 k3 k4 hmk
    go_wp2
    go_ret2
    exact ⟨v5, by rw [(unhide HE).1]; rfl, by rw [(unhide HE).2]; first | exact unhide HO | (rw [← eA]; exact unhide HO), by first | exact unhide HBf | (rw [← eA]; exact unhide HBf)⟩
end K
end Go.Proofs.YtcofnockikninabGreatDoor
/-
  The record of layer 9's promises is kept by the landed code.
-/
namespace Go.Proofs.YtcofnockikninabGreatDoor
open Go.RowKit
namespace K
/-- Reading and writing as the plain words say, where the two tables of unicode/utf8 lie in memory. -/
theorem der_kept : Der Tabs := ⟨fun _ _ h hb => h.below hb, fun w S cs v hR hv hw => write_c w S cs v hR hv hw⟩
end K
end Go.Proofs.YtcofnockikninabGreatDoor
