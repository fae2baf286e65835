/- Parts of the walk. -/
import Derived.Test.YtcofnockikninaaGreatDoorZgMB
import Derived.Test.YtcofnockikninaaGreatDoorZgNum9
import Derived.Test.YtcofnockikninaaGreatDoorZgNf
set_option maxRecDepth 100000
set_option maxHeartbeats 16000000
namespace Go.Proofs.YtcofnockikninaaGreatDoor
open Go.RowKit
namespace K
theorem made_room {P : Program} {t e : TypeId} {z : Value} {by_ : Nat} (E : Elem P t e z by_) (w : World) (k1 k2 : IntKind) (n : Nat) (x : Int) (hx : x = (n : Int)) (hn : n ≤ 1073741824) :
  ∃ W, (Instr.makeSlice t (.int k1 0) (.int k2 x)).run P w = .ok (.slice (some ⟨w.heap.size, 0, none⟩) 0 n) W ∧ OwnV e W w.heap.size (.slice (some ⟨w.heap.size, 0, none⟩) 0 n) [] ∧ Below w.heap.size w W := by
 subst hx
 obtain ⟨hu, ⟨i, hi, h0, hsz, hby⟩, _, hsmall⟩ := E
 have hbn : i.bytes * n ≤ 281474976710656 := by
  rw [hby]
  have := Nat.mul_le_mul hsmall hn
  omega
 obtain ⟨W, hr, ho, hg⟩ := run_make_own (P := P) w w.heap.size t e i z 1 hu hi h0 hsz k1 k2 n hbn (by simp only [maxLen]; omega) (Nat.le_refl _)
 exact ⟨W, hr, ho, (Below.refl _ _).grown hg (Nat.le_refl _) (fun k hk => by cases hk)⟩
theorem grow_trans {a b c : World} {r r' : Option Nat} (h1 : a.grownBy b r) (h2 : b.grownBy c r') (hr : ∀ g, r' = some g → r = some g ∨ a.heap.size ≤ g) : a.grownBy c r :=
 ⟨h2.os.trans h1.os, h2.tape.trans h1.tape, h2.output.trans h1.output, Nat.le_trans h1.size h2.size, fun k hk hne => by
  rw [h2.block k (Nat.lt_of_lt_of_le hk h1.size) (fun e => by
   rcases hr k e.symm with h | h
   ·exact hne h.symm
   ·omega), h1.block k hk hne]⟩
theorem grow_below {a b : World} (h : Below a.heap.size a b) (r : Option Nat) : a.grownBy b r := ⟨h.os, h.tape, h.output, h.size, fun k hk _ => h.block k hk⟩
structure Grown (w w' : World) (v v' : Value) : Prop where
 g : w.grownBy w' v.ownBlock
 o : ∀ k, v'.ownBlock = some k → v.ownBlock = some k ∨ w.heap.size ≤ k
theorem Grown.refl (w : World) (v : Value) : Grown w w v v := ⟨World.grownBy.refl _ _, fun _ h => Or.inl h⟩
theorem Grown.trans {a b c : World} {u v x : Value} (h1 : Grown a b u v) (h2 : Grown b c v x) : Grown a c u x :=
 ⟨grow_trans h1.g h2.g (fun k hk => h1.o k hk), fun k hk => by
  rcases h2.o k hk with h | h
  ·exact h1.o k h
  ·exact Or.inr (Nat.le_trans h1.g.size h)⟩
theorem Grown.call {a b c : World} {u v : Value} (h1 : Grown a b u v) (h2 : Below b.heap.size b c) : Grown a c u v := h1.trans ⟨grow_below h2 _, fun _ h => Or.inl h⟩
theorem Grown.of {w w' : World} {v v' : Value} (h1 : w.grownBy w' v.ownBlock) (h2 : v'.ownBlock = v.ownBlock ∨ v'.ownBlock = some w.heap.size) : Grown w w' v v' :=
 ⟨h1, fun k hk => by
  rcases h2 with h | h
  ·rw [h] at hk; exact Or.inl hk
  ·rw [h] at hk; simp only [Option.some.injEq] at hk; exact Or.inr (by omega)⟩
theorem Grown.keep {a b w0 : World} {u v : Value} {A : Nat} {cs : Array Value} {T : TypeId} (h : Grown a b u v) (hA : Blk w0 a A cs T) (hne : u.ownBlock ≠ some A) (hb : Below w0.heap.size w0 b) : Blk w0 b A cs T ∧ v.ownBlock ≠ some A :=
 ⟨⟨by rw [h.g.block A hA.lt (fun e => hne e.symm)]; exact hA.res, hb, hA.ge⟩, fun e => by
  rcases h.o A e with h1 | h1
  ·exact hne h1
  ·have := hA.lt; omega⟩
def PutC (n : Nat) : Prop := ∀ (f : Nat) (wb w : World) (v : DV) (cs : List Value) (W : Bs) (row : Value) (l : Bs), VAt n (fun b => b < wb.heap.size) wb cs v → weight v ≤ 1000000 → writeP formD f v = .yes W → Row wb w row l → l.length + W.length ≤ 20000000 → Calls Tryz.prog 104 #[row, .agg cs.toArray] w fun e w' => ∃ v', e = .returned v' ∧ Row wb w' v' (l ++ W) ∧ Grown w w' row v'
theorem put_step (n : Nat) (hp : PutC n) : PutC (n + 1) := fun f wb w v cs W row l hv hw hW hrow hl => by
 cases f with
 | zero => simp [writeP] at hW
 | succ f =>
 obtain ⟨c, t, hc, ht, hc3, ht2⟩ := right_nums hW
 have hWl : W.length ≤ 9000000 := by have := out_le _ v W hw hW; omega
 obtain ⟨c', t', m, bs, ks⟩ := v
 simp only [DV.cls, DV.tag] at hc ht
 subst hc ht
 obtain ⟨s1, c1, sk, ck, e⟩ := hv.form
 simp only [DV.cls, DV.tag, DV.made, DV.bytes, DV.kids] at e
 subst e
 obtain ⟨rs, rc, er⟩ := hrow.own.form
 obtain ⟨RL, hRL⟩ := exq l.length
 rw [hRL] at er
 subst er
 have hby : BytesAt wb (.slice s1 bs.length c1) bs := by
  obtain ⟨xb, _, _, e, h2, _⟩ := hv
  simp only [dcells, List.cons.injEq] at e
  rw [e.2.2.2.1]
  exact h2
 have Hin : Hid (∀ Wd, Below wb.heap.size wb Wd → Calls Tryz.prog 125 #[.agg (dcells (c : Int) (t : Int) m (.slice s1 bs.length c1) (.slice sk ks.length ck)).toArray] Wd fun e w' => ∃ (N : Nat) (X : Bs), e = .returned (.int .i64 (N : Int)) ∧ Body (.mk (c : Int) (t : Int) m bs ks) W N X ∧ N ≤ 9000000 ∧ Below Wd.heap.size Wd w') := fun Wd hb => inner_all (n + 1) _ _ _ Wd _ W (hv.below hb) hw hW
 have HBod : Hid (∀ N X, N ≤ 9000000 → Body (.mk (c : Int) (t : Int) m bs ks) W N X → ∃ xs, allP (writeP formD f) ks = .yes xs ∧ W = tagB c t m ++ lenB N ++ (bs ++ xs.flatten)) := fun N X hN hB => by
  obtain ⟨xs, hxs, hX, _, _⟩ := body_parts hW (by omega) (by omega) hB
  refine ⟨xs, hxs, ?_⟩
  rw [← hX]
  exact hB.1
 have HBy : Hid (∀ Wd, Below wb.heap.size wb Wd → BytesAt Wd (.slice s1 bs.length c1) bs) := fun Wd hb => hby.below hb
 have HKid : Hid (∀ (xs : List Bs) (i : Nat), allP (writeP formD f) ks = .yes xs → i < ks.length → ∃ (k : DV) (ba oa : Nat) (ds : List Value) (x : Bs), sk = some ⟨ba, oa, none⟩ ∧ ba < wb.heap.size ∧ xs[i]? = some x ∧ CellsAt wb ba (oa + i * 5) ds ∧ VAt n (fun b => b < wb.heap.size) wb ds k ∧ weight k ≤ 1000000 ∧ writeP formD f k = .yes x) := fun xs i hxs hi => by
  have hik : ks[i]? = some ks[i] := List.getElem?_eq_getElem hi
  obtain ⟨ba, oa, ds, q1, q2, q3⟩ := kid_at hv i _ hik
  obtain ⟨x, hx, hg⟩ := (all_get hxs).2 i _ hik
  have hwk := weight_kid hik
  have hlen := q3.len
  obtain ⟨u, hu⟩ : ∃ u, ds[0]? = some u := ⟨_, List.getElem?_eq_getElem (by omega)⟩
  exact ⟨_, ba, oa, ds, x, q1, World.block_lt_of_cell? wb _ (q2 0 u hu), hx, q2, q3, by simp only [weight] at hw; omega, hg⟩
 have hkl := weights_len ks
 have hwt : bs.length + weights ks ≤ 1000000 := by simp only [weight] at hw; omega
 have HW := h_ hWl
 have Hp := h_ hp
 have HRow := h_ hrow
 have HlW : Hid (RL + W.length ≤ 20000000) := by show _ ≤ _; rw [← hRL]; exact hl
 have HRL := h_ hRL
 obtain ⟨L, hL⟩ := exq bs.length
 obtain ⟨K, hK⟩ := exq ks.length
 have HK := h_ hK
 have HL := h_ hL
 have hKb : K ≤ 1000000 := by omega
 rw [hL] at Hin HBy
 rw [hK] at Hin HKid
 rw [hL, hK]
 unfold dcells at Hin ⊢
 have hA := Blk.new hrow.b #[.int .i64 (c : Int), .int .i64 (t : Int), .bool m, .slice s1 L c1, .slice sk K ck] 25
 have hr1 := hrow.lit (.cells #[.int .i64 (c : Int), .int .i64 (t : Int), .bool m, .slice s1 L c1, .slice sk K ck] 25)
 obtain ⟨w1, hw1⟩ := exq (w.alloc (.cells #[.int .i64 (c : Int), .int .i64 (t : Int), .bool m, .slice s1 L c1, .slice sk K ck] 25))
 have hna : (Value.slice rs RL rc).ownBlock ≠ some w.heap.size := fun e => by
  have hh := hrow.own
  unfold OwnB OwnV at hh
  rcases hh.2 with ⟨h1, _⟩ | ⟨g, cap, cur, h1, _, h2, _⟩
  ·rw [h1] at e; cases e
  ·rw [h1] at e
   simp only [Value.ownBlock, Option.some.injEq] at e
   have := (Array.getElem?_eq_some_iff.1 h2).1
   omega
 obtain ⟨A, eA⟩ := exq w.heap.size
 have hgr1 : Grown w w1 (.slice rs RL rc) (.slice rs RL rc) := by rw [← hw1]; exact (Grown.refl w _).call ((Below.refl _ _).alloc (Nat.le_refl _) _)
 rw [hw1, eA] at hA
 rw [hw1] at hr1
 rw [eA] at hna
 have k0 := hA.cell 0 _ rfl
 have k1 := hA.cell 1 _ rfl
 have k2 := hA.cell 2 _ rfl
 have k3 := hA.cell 3 _ rfl
 have k4 := hA.cell 4 _ rfl
 have HA := h_ hA.drew
 have HR := h_ (show Row wb w1.drew (.slice rs RL rc) l from ⟨hr1.own, hr1.b.drew⟩)
 have HG : Hid (Grown w w1.drew (.slice rs RL rc) (.slice rs RL rc)) := hgr1.call (Below.refl _ _).drew
 have Hhd : Hid (∀ (N : Nat) (Wd : World), N ≤ 9000000 → GivesB Wd 126 #[.agg #[.int .i64 (c : Int), .int .i64 (t : Int), .bool m, .slice s1 L c1, .slice sk K ck], .int .i64 (N : Int)] (tagB c t m ++ lenB N)) := fun N Wd hN => head_c c t N m s1 sk L c1 K ck Wd hc3 ht2 (by omega)
 unfold GivesB at Hhd
 have Hll : Hid (∀ N, N ≤ 9000000 → l.length + (tagB c t m ++ lenB N).length ≤ 1073741824) := fun N hN => by
  have h1 := len_tagB_le c t m
  have h2 := lenB_le (n := N) (by omega)
  rw [List.length_append]
  omega
 have HNA := h_ hna
 clear hA hr1 hgr1 hv hw hW hby hrow hp hna hRL hL hK
 go_enter Tryz.func104, Tryz.ntmps104
 go_wp2
 go_region_held3 (fun w' => w'.cell? ⟨A, 0, none⟩ = some (.int .i64 (c : Int)) ∧ w'.cell? ⟨A, 1, none⟩ = some (.int .i64 (t : Int)) ∧ w'.cell? ⟨A, 2, none⟩ = some (.bool m) ∧ w'.cell? ⟨A, 3, none⟩ = some (.slice s1 L c1) ∧ w'.cell? ⟨A, 4, none⟩ = some (.slice sk K ck)) (go_keep)
  ((first
        | (go_at_call 125
           refine (u_ Hin _ HR.b).mono ?_
           rintro e w2 ⟨N, X, rfl, hbo, hN, hb2⟩
           have HBo := h_ hbo
           have HA2 := h_ (HA.call hb2)
           have HR2 := h_ (HR.call hb2)
           have HG2 := h_ (HG.call hb2)
           clear k0 k1 k2 k3 k4 hbo hb2
           have k0 := HA2.cell 0 _ rfl; have k1 := HA2.cell 1 _ rfl; have k2 := HA2.cell 2 _ rfl; have k3 := HA2.cell 3 _ rfl; have k4 := HA2.cell 4 _ rfl)
        | (go_at_call 126
           refine (u_ Hhd N _ hN).mono ?_
           rintro e w3 ⟨z3, rfl, hR3⟩
           have HY3 := h_ hR3.bytes
           have HA3 := h_ (HA2.call hR3.b)
           have HR3 := h_ (HR2.call hR3.b)
           have HG3 := h_ (HG2.call hR3.b)
           clear k0 k1 k2 k3 k4 hR3
           have k0 := HA3.cell 0 _ rfl; have k1 := HA3.cell 1 _ rfl; have k2 := HA3.cell 2 _ rfl; have k3 := HA3.cell 3 _ rfl; have k4 := HA3.cell 4 _ rfl)
        | (refine step_append_row rfl _ _ rfl (.slice rs RL rc) z3 l (tagB c t m ++ lenB N) (by simp [Act.eval]) (u_ HR3) (by simp [Act.eval]) (u_ HY3) (u_ Hll N hN) ?_
           intro v4 w4 hR4 hG4
           obtain ⟨s4, c4, ev4⟩ := hR4.own.form
           obtain ⟨M4, hM4⟩ := exq ((l ++ (tagB c t m ++ lenB N)).length)
           rw [hM4] at ev4
           subst ev4
           clear hM4
           have hgr := Grown.of hG4.1 hG4.2
           obtain ⟨hA4, hn4⟩ := hgr.keep (u_ HA3) (u_ HNA) hR4.b
           have HA4 := h_ hA4
           have HN4 := h_ hn4
           have HG4 := h_ (HG3.trans hgr)
           have HR4 := h_ hR4
           clear hR4 hG4 hgr hA4 hn4
           clear k0 k1 k2 k3 k4
           have k0 := HA4.cell 0 _ rfl; have k1 := HA4.cell 1 _ rfl; have k2 := HA4.cell 2 _ rfl; have k3 := HA4.cell 3 _ rfl; have k4 := HA4.cell 4 _ rfl)))
 clear hw1 HA HR HG HA2 HR2 HG2 HA3 HR3 HG3 HY3 Hhd Hin Hll HNA
 obtain ⟨xs, hxs, hWe⟩ := u_ HBod N X hN (u_ HBo)
 have hxl := (all_get hxs).1
 rw [u_ HK] at hxl
 obtain ⟨H0, hH0⟩ := exq (tagB c t m ++ lenB N)
 rw [hH0] at hWe
 simp only [hH0] at HR4
 have hWlen : H0.length + (bs.length + xs.flatten.length) ≤ 9000000 := by
  have h1 := u_ HW
  rw [hWe, List.length_append, List.length_append] at h1
  exact h1
 have HY5 := h_ (u_ HBy w4 HR4.b)
 have Hxs := h_ hxs
 have HWe := h_ hWe
 have Hxl := h_ hxl
 have Hwl := h_ hWlen
 have HWl2 : Hid (RL + (H0.length + (bs.length + xs.flatten.length)) ≤ 20000000) := by
  have h1 := u_ HlW
  rw [hWe, List.length_append, List.length_append] at h1
  exact h1
 have Hll2 : Hid ((l ++ H0).length + bs.length ≤ 1073741824) := by show _ ≤ _; have h3 := u_ HWl2; rw [List.length_append, u_ HRL]; omega
 clear hxs hWe hxl hWlen hH0 HBod HBo HBy
 go_upto_region 3 with (at_builtin; refine wpList_append_bytes rfl _ _ rfl wb.heap.size (.slice s4 M4 c4) (.slice s1 L c1) (l ++ H0) bs rfl HR4.own rfl (u_ HY5) HR4.b.size (u_ Hll2) ?_
                        intro v5 w5 hO5 hg5 hor5
                        have HO5 := h_ hO5
                        have HGr5 := h_ (Grown.of hg5 hor5)
                        have HBg5 := h_ (ownb_below HR4.own hg5 HR4.b HR4.b.size)
                        clear hO5 hg5 hor5)
 have HR5 : Hid (Row wb w5 v5 (l ++ H0 ++ bs)) := ⟨u_ HO5, u_ HBg5⟩
 obtain ⟨hA5, hn5⟩ := HGr5.keep (u_ HA4) (u_ HN4) HR5.b
 have HG5 := h_ (HG4.trans (u_ HGr5))
 have HA5 := h_ hA5
 have HN5 := h_ hn5
 have j4 := hA5.cell 4 _ rfl
 obtain ⟨s5, c5, ev5⟩ := HR5.own.form
 clear hA5 hn5 HO5 HGr5 HBg5 HA4 HN4 HG4 HR4 HY5 Hll2 k0 k1 k2 k3 k4
 obtain ⟨M5, hM5⟩ := exq ((l ++ H0 ++ bs).length)
 rw [hM5] at ev5
 subst ev5
 clear hM5
 go_wp2
 clear j4
 go_loopw [0, 20] (fun bb ii wr => ∃ (i : Nat) (sv : Option Addr) (M cv : Nat), i ≤ K ∧ bb = .slice sv M cv ∧ ii = .int .i64 (i : Int) ∧ Hid (Row wb wr (.slice sv M cv) (l ++ H0 ++ bs ++ (xs.take i).flatten)) ∧ Hid (Grown w wr (.slice rs RL rc) (.slice sv M cv))) (fun _ ii _ => K - (intOf ii).toNat)
 case atStart => exact ⟨0, s5, M5, c5, by omega, rfl, rfl, by rw [List.take_zero, List.flatten_nil, List.append_nil]; exact u_ HR5, HG5⟩
 case round =>
  obtain ⟨i, sv, M, cv, hi, rfl, rfl, HRr, HGr⟩ := hrel
  clear HR5 HG5 HA5 HN5
  by_cases hlt : i < K
  ·obtain ⟨k, ba, oa, ds, x, rfl, hbalt, hx, g1, v1, hkw, hkx⟩ := u_ HKid xs i (u_ Hxs) hlt
   obtain ⟨p1, q1, p2, q2, rfl⟩ := v1.form
   obtain ⟨x0, x1, x2, x3, x4⟩ := (g1.below HRr.b).five
   obtain ⟨d1, d1n⟩ := ltVV i K
   have i0 : (0 : Int) ≤ (i : Int) := by omega
   have i1 : (i : Int) < (K : Int) := by omega
   obtain ⟨kc, kt, km, kl, kn, hkc, hkt, hkm, hkl3, hkk⟩ := ex5 k
   simp only [hkc, hkt, hkm, hkl3, hkk] at x0 x1 x2 x3 x4 v1
   have hC := Blk.new HRr.b #[.int .i64 kc, .int .i64 kt, .bool km, .slice p1 kl q1, .slice p2 kn q2] 25
   have hR6 := HRr.lit (.cells #[.int .i64 kc, .int .i64 kt, .bool km, .slice p1 kl q1, .slice p2 kn q2] 25)
   have hG6 := HGr.call ((Below.refl _ _).alloc (Nat.le_refl _) (.cells #[.int .i64 kc, .int .i64 kt, .bool km, .slice p1 kl q1, .slice p2 kn q2] 25))
   obtain ⟨w6, hw6⟩ := exq (wr.alloc (.cells #[.int .i64 kc, .int .i64 kt, .bool km, .slice p1 kl q1, .slice p2 kn q2] 25))
   obtain ⟨E, eE⟩ := exq wr.heap.size
   rw [hw6] at hC hR6 hG6
   rw [eE] at hC
   have hfl := flat_take hx
   have Hlx : Hid ((l ++ H0 ++ bs ++ (xs.take i).flatten).length + x.length ≤ 20000000) := by
    show _ ≤ _
    have h1 := u_ Hwl
    have h2 : xs.flatten.length = (xs.take (i + 1)).flatten.length + (xs.drop (i + 1)).flatten.length := by rw [← List.length_append, ← List.flatten_append, List.take_append_drop]
    have h3 := u_ HWl2
    simp only [List.length_append, u_ HRL]
    omega
   have HEx : Hid (l ++ H0 ++ bs ++ (xs.take i).flatten ++ x = l ++ H0 ++ bs ++ (xs.take (i + 1)).flatten) := by
    show _ = _
    rw [List.take_add_one, hx, List.flatten_append]
    simp
   have Hpk := h_ (u_ Hp f wb w6 k _ x (.slice sv M cv) _ v1 hkw hkx hR6 (u_ Hlx))
   unfold dcells at Hpk
   have y0 := hC.cell 0 _ rfl
   have y1 := hC.cell 1 _ rfl
   have y2 := hC.cell 2 _ rfl
   have y3 := hC.cell 3 _ rfl
   have y4 := hC.cell 4 _ rfl
   have HG6 := h_ hG6
   clear hC hR6 hG6 g1 v1 hkw hkx hx hkc hkt hkm hkl3 hkk HRr HGr hfl hbalt HKid
   go_wp2_with fail
   refine Hpk.mono ?_
   rintro e w7 ⟨v7, rfl, hR7, hG7⟩
   obtain ⟨s7, c7, ev7⟩ := hR7.own.form
   rw [u_ HEx] at hR7
   obtain ⟨M7, hM7⟩ := exq ((l ++ H0 ++ bs ++ (xs.take i).flatten ++ x).length)
   rw [hM7] at ev7
   subst ev7
   have HR7 := h_ hR7
   have HG7 := h_ (HG6.trans hG7)
   clear hR7 hG7 hM7 Hpk HG6 y0 y1 y2 y3 y4 x0 x1 x2 x3 x4 HEx Hlx
   go_wp2
   go_roundw
   case rel =>
    exact ⟨i + 1, s7, M7, c7, by omega, rfl, by go_num, HR7, HG7⟩
   case measure => simp [intOf]; omega
  ·have hiK : i = K := by omega
   have HF : Hid (Row wb wr (.slice sv M cv) (l ++ W)) := by
    have h1 := u_ HRr
    rw [List.take_of_length_le (by rw [u_ Hxl]; omega), List.append_assoc, List.append_assoc] at h1
    rw [u_ HWe]
    exact h1
   obtain ⟨d1, d1n⟩ := ltVVf i K
   clear hiK HRr
   go_wp2
   go_ret
   exact ⟨_, rfl, u_ HF, u_ HGr⟩
theorem put_all : ∀ n, PutC n
 | 0 => fun _ _ _ _ _ _ _ _ h => h.elim
 | n + 1 => put_step n (put_all n)
end K
namespace K
theorem write_c (w : World) (S : Nat → Prop) (cs : List Value) (v : DV) (hT : Tabs w) (hv : ValAt S w cs v) (hw : weight v ≤ 1000000) :
  Calls Tryz.prog 80 #[.agg cs.toArray] w fun e w' => ∃ x, e = .returned (.tuple #[x, .int .i64 (errOf (writeTop formD v) : Int)]) ∧ OwnB w' w.heap.size x (bytesOf (writeTop formD v)) ∧ Below w.heap.size w w' := by
 obtain ⟨n, hv⟩ := hv
 have hv := hv.mono (S' := fun b => b < w.heap.size) (fun b _ hb => hb)
 obtain ⟨s1, c1, sk, ck, e⟩ := hv.form
 obtain ⟨c, t, m, L, K, hc, ht, hm, hL, hK⟩ := ex5 v
 rw [hc, ht, hm, hL, hK] at e
 subst e
 have HT0 : Hid (writeTop formD v = match writeP formD 17 v with | .no e => .no e | .yes b => if 65536 < b.length then .no 54 else .yes b) := by show _ = _; unfold writeTop; rfl
 obtain ⟨R, hR⟩ := exq (writeTop formD v)
 rw [hR] at HT0
 rw [hR]
 have HV := h_ hv
 have Hwt := h_ hw
 have HTab := h_ hT
 obtain ⟨w1, A, hw1, eA, hA⟩ := blkN (Below.refl w.heap.size w) #[.int .i64 c, .int .i64 t, .bool m, .slice s1 L c1, .slice sk K ck] 25
 have Hck := h_ (check_all 17 n _ v w1 _ 0 (hv.below hA.b) hw (hT.below hA.b) rfl)
 unfold dcells at Hck ⊢
 have k0 := hA.cell 0 _ rfl
 have k1 := hA.cell 1 _ rfl
 have k2 := hA.cell 2 _ rfl
 have k3 := hA.cell 3 _ rfl
 have k4 := hA.cell 4 _ rfl
 have HA := h_ hA
 obtain ⟨er, her⟩ := exq (errOf (writeP formD 17 v))
 rw [her] at Hck
 have Her := h_ her
 clear hA hv hw hT hR her hc ht hm hL hK
 go_enter Tryz.func80, Tryz.ntmps80
 go_wp2_with fail
 refine Hck.mono ?_
 rintro e w2 ⟨rfl, hb2⟩
 have HA2 := h_ (HA.call hb2)
 clear hb2 Hck k0 k1 k2 k3 k4 HA hw1
 cases hg : writeP formD 17 v with
 | no e' =>
  have h1 := u_ Her
  rw [hg] at h1
  have h2 : e' = er := h1
  have hne := write_pos formD 17 v e' hg
  have HE : Hid (errOf R = er ∧ bytesOf R = []) := by
   have h3 := u_ HT0
   rw [hg] at h3
   have h4 : R = .no e' := h3
   rw [h4]
   exact ⟨h2, rfl⟩
  have z0 : ((er : Int) == 0) = false := by simp; omega
  have z0' : ((er : Int) != 0) = true := by simp; omega
  clear HT0 hg h1 h2 hne Her
  go_wp2
  go_ret2
  exact ⟨.slice none 0 0, by rw [HE.1]; rfl, by rw [HE.2]; exact ownb_nil _ _, by first | exact HA2.b | (rw [← eA]; exact HA2.b)⟩
 | yes W =>
  have h1 := u_ Her
  rw [hg] at h1
  have h2 : 0 = er := h1
  have z0 : ((er : Int) == 0) = true := by simp; omega
  have z0' : ((er : Int) != 0) = false := by simp; omega
  have HR : Hid (R = if 65536 < W.length then .no 54 else .yes W) := by
   have h3 := u_ HT0
   rw [hg] at h3
   exact h3
  have hWl : W.length ≤ 9000000 := by have := out_le 17 v W (u_ Hwt) hg; have := u_ Hwt; omega
  have Hsz := h_ (size_all n 17 _ v w2 _ W (HV.below HA2.b) (u_ Hwt) hg)
  unfold dcells at Hsz
  obtain ⟨N, hN⟩ := exq W.length
  rw [hN] at Hsz HR hWl
  have HN := h_ hN
  have HW := h_ hg
  have k0 := HA2.cell 0 _ rfl
  have k1 := HA2.cell 1 _ rfl
  have k2 := HA2.cell 2 _ rfl
  have k3 := HA2.cell 3 _ rfl
  have k4 := HA2.cell 4 _ rfl
  clear HT0 hg h1 h2 Her hN
  go_wp2_with fail
  refine Hsz.mono ?_
  rintro e w3 ⟨rfl, hb3⟩
  have hA3 := HA2.call hb3
  have HA3 := h_ hA3
  clear hb3 Hsz k0 k1 k2 k3 k4 HA2
  by_cases hbig : 65536 < N
  ·obtain ⟨d1, d1n⟩ := ltLV 65536 65536 N
   have HE : Hid (errOf R = 54 ∧ bytesOf R = []) := by rw [u_ HR, if_pos hbig]; exact ⟨rfl, rfl⟩
   clear hA3
   go_wp2
   go_ret2
   exact ⟨.slice none 0 0, by rw [HE.1]; rfl, by rw [HE.2]; exact ownb_nil _ _, by first | exact HA3.b | (rw [← eA]; exact HA3.b)⟩
  obtain ⟨d1, d1n⟩ := ltLVf 65536 65536 N
  have HE : Hid (errOf R = 0 ∧ bytesOf R = W) := by rw [u_ HR, if_neg hbig]; exact ⟨rfl, rfl⟩
  obtain ⟨w4, hmk, hown, hbel⟩ := made_room Eb w3.drew .i64 .i64 N (N : Int) rfl (by omega)
  have k0 := hA3.cell 0 _ rfl
  have k1 := hA3.cell 1 _ rfl
  have k2 := hA3.cell 2 _ rfl
  have k3 := hA3.cell 3 _ rfl
  have k4 := hA3.cell 4 _ rfl
  have hA4 := hA3.drew.call hbel
  have j0 := hA4.cell 0 _ rfl
  have j1 := hA4.cell 1 _ rfl
  have j2 := hA4.cell 2 _ rfl
  have j3 := hA4.cell 3 _ rfl
  have j4 := hA4.cell 4 _ rfl
  have Hput := h_ (put_all n 17 w3.drew w4 v _ W (.slice (some ⟨w3.drew.heap.size, 0, none⟩) 0 N) [] ((HV.mono (S' := fun b => b < w3.drew.heap.size) (fun b hb _ => Nat.lt_of_lt_of_le hb hA3.b.size)).below hA3.drew.b) (u_ Hwt) (u_ HW) ⟨hown, hbel⟩ (by rw [u_ HN]; simp; omega))
  unfold dcells at Hput
  have Hbb := h_ hA3.drew.b
  have HA3d := h_ hA3.drew
  clear hA3 hA4 hown hbel HR HA3
  go_wp2
  go_region_held3 (fun w' => w'.cell? ⟨A, 0, none⟩ = some (.int .i64 c) ∧ w'.cell? ⟨A, 1, none⟩ = some (.int .i64 t) ∧ w'.cell? ⟨A, 2, none⟩ = some (.bool m) ∧ w'.cell? ⟨A, 3, none⟩ = some (.slice s1 L c1) ∧ w'.cell? ⟨A, 4, none⟩ = some (.slice sk K ck)) (go_keep)
   ((first
       | (go_at_call 104
          refine Hput.mono ?_
          rintro e w5 ⟨v5, rfl, hR5, hG5⟩
          have HR5 := h_ hR5
          have hA5 := HA3d.call hR5.b
          have i0 := hA5.cell 0 _ rfl; have i1 := hA5.cell 1 _ rfl; have i2 := hA5.cell 2 _ rfl; have i3 := hA5.cell 3 _ rfl; have i4 := hA5.cell 4 _ rfl
          clear hR5 hG5 hA5)))
  have HO : Hid (OwnB w5 w.heap.size v5 W) := by
   have h1 := HR5.own
   rw [List.nil_append] at h1
   exact h1.mono Hbb.size
  have HBf := h_ (Hbb.trans (HR5.b.mono Hbb.size))
  clear i0 i1 i2 i3 i4 j0 j1 j2 j3 j4 k0 k1 k2 k3 k4 hmk
  go_wp2
  go_ret2
  exact ⟨v5, by rw [HE.1]; rfl, by rw [HE.2]; first | exact u_ HO | (rw [← eA]; exact u_ HO), by first | exact u_ HBf | (rw [← eA]; exact u_ HBf)⟩
end K
namespace K
end K
theorem ValAt.form {S : Nat → Prop} {w : World} {cs : List Value} {v : DV} (h : ValAt S w cs v) : ∃ s1 c1 s2 c2, cs = dcells v.cls v.tag v.made (.slice s1 v.bytes.length c1) (.slice s2 v.kids.length c2) := by
 obtain ⟨n, h⟩ := h
 exact h.form
theorem right_err (v : DV) : rightV v = decide (errOf (writeTop formD v) = 0) := by
 unfold rightV
 cases h : writeTop formD v with
 | no e => simp [errOf, top_pos formD v e h]
 | yes b => simp [errOf]
namespace N
open K
theorem isuni_c (w : World) (c t : Int) (m : Bool) (s1 s2 : Option Addr) (a b p q : Nat) (g : Int) (A B : Bool) (hA : (c == 0) = A) (hB : (t == g) = B) :
  Calls Tryz.prog 36 #[.agg (dcells c t m (.slice s1 a p) (.slice s2 b q)).toArray, .int .i64 g] w fun e w' => e = .returned (.bool (A && B)) ∧ Below w.heap.size w w' := by
 obtain ⟨w1, X, hw1, eX, hA2⟩ := blkN (Below.refl w.heap.size w) #[.int .i64 c, .int .i64 t, .bool m, .slice s1 a p, .slice s2 b q] 25
 have k0 := hA2.cell 0 _ rfl
 have k1 := hA2.cell 1 _ rfl
 have HA2 := h_ hA2
 have HX := h_ eX
 unfold dcells
 clear hA2
 cases A <;> cases B <;>
  (go_enter Tryz.func36, Tryz.ntmps36
   go_wp2
   go_ret
   exact ⟨rfl, HA2.b⟩)
theorem isright_c (w : World) (S : Nat → Prop) (cs : List Value) (v : DV) (hT : Tabs w) (hv : ValAt S w cs v) (hw : weight v ≤ 1000000) :
  Calls Tryz.prog 37 #[.agg cs.toArray] w fun e w' => e = .returned (.bool (rightV v)) ∧ Below w.heap.size w w' := by
 obtain ⟨s1, c1, s2, c2, rfl⟩ := hv.form
 obtain ⟨kc, kt, km, kl, kk, hkc, hkt, hkm, hkl, hkk⟩ := ex5 v
 simp only [hkc, hkt, hkm, hkl, hkk] at hv ⊢
 clear hkc hkt hkm hkl hkk
 obtain ⟨w1, X, hw1, eX, hA⟩ := blkN (Below.refl w.heap.size w) #[.int .i64 kc, .int .i64 kt, .bool km, .slice s1 kl c1, .slice s2 kk c2] 25
 have Hwr := h_ (write_c w1 S _ v (hT.below hA.b) (hv.below hA.b) hw)
 unfold dcells at Hwr ⊢
 have k0 := hA.cell 0 _ rfl
 have k1 := hA.cell 1 _ rfl
 have k2 := hA.cell 2 _ rfl
 have k3 := hA.cell 3 _ rfl
 have k4 := hA.cell 4 _ rfl
 have HA := h_ hA
 obtain ⟨er, her⟩ := exq (errOf (writeTop formD v))
 rw [her] at Hwr
 obtain ⟨U, hU⟩ := exq ((er : Int) == 0)
 have HT : Hid (rightV v = U) := by
  show _ = _
  rw [right_err, her, ← hU]
  by_cases h : er = 0 <;> simp [h]
 clear hA hv hw hT her
 cases U <;>
  (go_enter Tryz.func37, Tryz.ntmps37
   go_wp2_with fail
   refine Hwr.mono ?_
   rintro e w2 ⟨x, rfl, hO, hb2⟩
   have HA2 := h_ (HA.call hb2)
   obtain ⟨px, qx, rfl⟩ := hO.form
   clear hO hb2 k0 k1 k2 k3 k4 HA
   go_wp2
   go_ret
   exact ⟨by rw [u_ HT]; rfl, HA2.b⟩)
end N
theorem Eints : Elem Tryz.prog 81 3 (.int .i64 0) 8 := elem_of Tryz.underlying81 (by kernel_rfl) rfl (by omega)
structure RowN (wb w : World) (v : Value) (l : List Nat) : Prop where
 own : OwnV 3 w wb.heap.size v (l.map nv)
 b : Below wb.heap.size wb w
theorem RowN.call {wb w w' : World} {v : Value} {l : List Nat} (h : RowN wb w v l) (hb : Below w.heap.size w w') : RowN wb w' v l := ⟨OwnV.below h.own hb, h.b.trans (hb.mono h.b.size)⟩
theorem RowN.lit {wb w : World} {v : Value} {l : List Nat} (h : RowN wb w v l) (o : Obj) : RowN wb (w.alloc o) v l := h.call ((Below.refl _ _).alloc (Nat.le_refl _) _)
theorem RowN.form {wb w : World} {v : Value} {l : List Nat} (h : RowN wb w v l) : ∃ sp c, v = .slice sp l.length c := by
 obtain ⟨sp, c, e⟩ := OwnV.form h.own
 rw [List.length_map] at e
 exact ⟨sp, c, e⟩
theorem one_nums (l : List Nat) : ∀ u ∈ l.map nv, u.oneCell' = true := fun u hu => by obtain ⟨x, _, rfl⟩ := List.mem_map.1 hu; rfl
theorem wpList_append_nums {wb w : World} {ops : Array Oper} {rest : List Oper} {o : Oper} {a : Act} {Q : Exit → Act → World → Prop} (hgd : o.guard = none) (s x : Operand)
  (ho : o.op = .call { callee := .builtin .append, args := #[s, x], argTypes := #[81, 81] }) (v y : Value) (l m : List Nat) (hs : a.eval s = v) (hr : RowN wb w v l)
  (hx : a.eval x = y) (hy : ValsAt w y (m.map nv)) (hlen : l.length + m.length ≤ 1073741824)
  (h : ∀ v' w', RowN wb w' v' (l ++ m) → wpList Tryz.prog ops Q rest (a.put o.dst v') w') : wpList Tryz.prog ops Q (o :: rest) a w :=
 wpList_append_vals Eints hgd s x ho wb.heap.size v y (l.map nv) (m.map nv) hs hr.own hx hy (one_nums m) hr.b.size (by simpa using hlen) fun v' w' h1 h2 _ => h v' w' ⟨by rw [List.map_append]; exact h1, own_below hr.own h2 hr.b hr.b.size⟩
theorem one_num (w : World) (n : Nat) : ValsAt (w.alloc (.cells #[.int .i64 (n : Int)] 3)) (.slice (some ⟨w.heap.size, 0, none⟩) 1 1) ([n].map nv) := vals_new w ([n].map nv) 3
namespace N
open K
theorem groupsof_c (w : World) (x : Value) (b : Bs) (hx : BytesAt w x b) (hr : oidP b = true) (hl : b.length ≤ 1000000) :
  Calls Tryz.prog 38 #[x] w fun e w' => ∃ (v : Value) (ok : Bool), e = .returned (.tuple #[v, .bool ok]) ∧ ((∃ gs, oidG b = some gs ∧ gs ≠ [] ∧ ok = true ∧ RowN w w' v gs) ∨ (oidG b = none ∧ ok = false ∧ v = .slice none 0 0)) ∧ Below w.heap.size w w' := by
 obtain ⟨sp, c, rfl, _, _, _⟩ := bytes_open hx
 obtain ⟨N, hN⟩ := exq b.length
 have HN := h_ hN
 rw [hN] at hx hl ⊢
 have HX : Hid (∀ (k : Nat) (wr : World), k < N → Below w.heap.size w wr → ∃ (ba oa p : Nat), sp = some ⟨ba, oa, none⟩ ∧ (b.getD k 0).toNat = p ∧ p < 256 ∧ wr.cell? ⟨ba, oa + k, none⟩ = some (.int .u8 (p : Int))) := fun k wr hk hb => by
  obtain ⟨ba, oa, p, e1, e2, e3, e4⟩ := byte_at (hx.below hb) hN k hk
  exact ⟨ba, oa, p, e1, e2, e3, e4⟩
 have HRt := h_ hr
 clear hx hN hr
 go_enter Tryz.func38, Tryz.ntmps38
 go_wp2
 go_loopw [4, 5, 10] (fun bb nn ii wr => ∃ (k n M cv : Nat) (sv : Option Addr) (gs : List Nat), k ≤ N ∧ M ≤ 19 ∧ n < 1099511627776 ∧ bb = .slice sv M cv ∧ nn = .int .i64 (n : Int) ∧ ii = .int .i64 (k : Int) ∧ Hid (gs.length = M) ∧ Hid (gFold (b.take k) = some (gs, n)) ∧ Hid (RowN w wr (.slice sv M cv) gs)) (fun _ _ ii _ => N - (intOf ii).toNat)
 case atStart => exact ⟨0, 0, 0, 0, none, [], by omega, by omega, by omega, rfl, rfl, rfl, rfl, rfl, ⟨own_nil 3 _ _, Below.refl _ _⟩⟩
 case round =>
  obtain ⟨k, n, M, cv, sv, gs, hk, hM, hn, rfl, rfl, rfl, HM, HG, HR⟩ := hrel
  by_cases hlt : k < N
  ·obtain ⟨ba, oa, p, rfl, hp, hp2, hc⟩ := u_ HX k wr hlt HR.b
   obtain ⟨f1, f1n⟩ := ltVV k N
   have k0 : (0 : Int) ≤ (k : Int) := by omega
   have k1 : (k : Int) < (N : Int) := by omega
   obtain ⟨q, hq⟩ := exq (p % 128)
   obtain ⟨a2, ha2⟩ := exq (n * 128)
   obtain ⟨a3, ha3⟩ := exq (a2 + q)
   have hand : bits .andNot .u8 (p : Int) 128 = (q : Int) := by rw [← hq]; exact low7 ⟨p, hp2⟩
   have e2 : (n : Int) * 128 = (a2 : Int) := by omega
   have u2 : IntKind.i64.wrap (a2 : Int) = (a2 : Int) := IntWalk.i64_in _ (by omega)
   have uq : IntKind.i64.wrap (q : Int) = (q : Int) := IntWalk.i64_in _ (by omega)
   have hor : bits .or .i64 (a2 : Int) (q : Int) = (a3 : Int) := by
    rw [or_i64 a2 q (by omega) (by omega), ← ha3, ← ha2]
    congr 1
    exact or_add n q 7 (by omega)
   have HS : Hid (gFold (b.take (k + 1)) = if 1099511627776 ≤ a3 then none else some (if p < 128 then (gs ++ [a3], 0) else (gs, a3))) := by
    show _ = _
    rw [gFold_take (by have := u_ HN; omega), u_ HG]
    show gStep (gs, n) (b.getD k 0) = _
    unfold gStep
    rw [hp, hq]
    simp only [show 128 * n + q = a3 by omega]
   clear hp hq
   by_cases hbig : 1099511627776 ≤ a3
   ·have HF : Hid (oidG b = none) := by
     refine oidG_no (i := k + 1) ?_
     rw [u_ HS, if_pos hbig]
    obtain ⟨z1, z1n⟩ := ltLV 1099511627775 1099511627775 a3
    clear HS HG ha2 ha3
    go_wp2
    go_ret2
    exact ⟨_, _, rfl, Or.inr ⟨u_ HF, rfl, rfl⟩, HR.b⟩
   obtain ⟨z1, z1n⟩ := ltLVf 1099511627775 1099511627775 a3
   have HS2 : Hid (gFold (b.take (k + 1)) = some (if p < 128 then (gs ++ [a3], 0) else (gs, a3))) := by show _ = _; rw [u_ HS, if_neg hbig]
   by_cases h19 : M = 19
   ·have HF : Hid (oidG b = none) := oidG_many (u_ HRt) (by have := u_ HN; omega) (u_ HG) (by have := u_ HM; omega)
    subst h19
    clear HS HG HS2 ha2 ha3
    go_wp2
    go_ret2
    exact ⟨_, _, rfl, Or.inr ⟨u_ HF, rfl, rfl⟩, HR.b⟩
   have z2 : ((M : Int) + 1 == 20) = false := by simp; omega
   by_cases h128 : p < 128
   ·obtain ⟨z3, z3n⟩ := ltVL p 128 128
    have HS3 : Hid (gFold (b.take (k + 1)) = some (gs ++ [a3], 0)) := by show _ = _; rw [u_ HS2, if_pos h128]
    have HY := h_ (one_num wr a3)
    have HR2 := h_ (HR.lit (.cells #[.int .i64 (a3 : Int)] 3))
    obtain ⟨M3, hM3⟩ := exq (M + 1)
    have HM3 : Hid ((gs ++ [a3]).length = M3) := by show _ = _; rw [List.length_append, u_ HM, ← hM3]; rfl
    have hM4 : M3 ≤ 19 := by omega
    have HM5 := h_ hM3
    clear HS HG HS2 HR ha2 ha3 hM3
    go_wp2_with (at_builtin; refine wpList_append_nums rfl _ _ rfl (.slice sv M cv) (.slice (some ⟨wr.heap.size, 0, none⟩) 1 1) gs [a3] rfl (u_ HR2) rfl (u_ HY) (by rw [u_ HM]; simp; omega) ?_
                 intro v3 W3 hR3
                 obtain ⟨p3, q3, rfl⟩ := hR3.form
                 rw [u_ HM3] at hR3 ⊢
                 have HR3 := h_ hR3
                 clear hR3)
    go_roundw
    case rel =>
     first
      | exact ⟨k + 1, 0, M3, q3, p3, gs ++ [a3], by omega, hM4, by omega, rfl, rfl, by go_num, HM3, HS3, HR3⟩
      | ((repeat apply Exists.intro); exact ⟨⟨k + 1, 0, M3, q3, p3, gs ++ [a3], by omega, hM4, by omega, rfl, rfl, by go_num, HM3, HS3, HR3⟩, rfl⟩)
    case measure => simp [intOf]; omega
   ·obtain ⟨z3, z3n⟩ := ltVLf p 128 128
    have HS3 : Hid (gFold (b.take (k + 1)) = some (gs, a3)) := by show _ = _; rw [u_ HS2, if_neg h128]
    clear HS HG HS2 ha2 ha3
    go_wp2
    go_roundw
    case rel =>
     first
      | exact ⟨k + 1, a3, M, cv, sv, gs, by omega, hM, by omega, rfl, rfl, by go_num, HM, HS3, HR⟩
      | ((repeat apply Exists.intro); exact ⟨⟨k + 1, a3, M, cv, sv, gs, by omega, hM, by omega, rfl, rfl, by go_num, HM, HS3, HR⟩, rfl⟩)
    case measure => simp [intOf]; omega
  ·obtain ⟨f1, f1n⟩ := ltVVf k N
   have hG : gFold b = some (gs, n) := by
    have := u_ HG
    rw [List.take_of_length_le (by have := u_ HN; omega)] at this
    exact this
   have HF : Hid (oidG b = some gs ∧ gs ≠ []) := by
    refine ⟨?_, (oidG_end (u_ HRt) hG).2⟩
    unfold oidG
    rw [hG]
    simp only
    rw [if_pos (by have := u_ HM; omega)]
   clear hG HG
   go_wp2
   go_ret2
   exact ⟨_, _, rfl, Or.inl ⟨gs, HF.1, HF.2, rfl, u_ HR⟩, HR.b⟩
end N
end Go.Proofs.YtcofnockikninaaGreatDoor
