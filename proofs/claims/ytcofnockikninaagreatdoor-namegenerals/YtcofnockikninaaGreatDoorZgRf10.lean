/- Parts of the walk. -/
import Derived.Test.YtcofnockikninaaGreatDoorZgQa
import Derived.Test.YtcofnockikninaaGreatDoorZgPq10
import Derived.Test.YtcofnockikninaaGreatDoorZgDb10
import Derived.Test.YtcofnockikninaaGreatDoorZgOQ
import Derived.Test.YtcofnockikninaaGreatDoorZgRC
set_option maxRecDepth 100000
set_option maxHeartbeats 16000000
namespace Go.Proofs.YtcofnockikninaaGreatDoor
open Go.RowKit
theorem wpList_append_five {P : Program} {t e : TypeId} {z : Value} (E : Elem5 P t e z) {w : World} {ops : Array Oper} {rest : List Oper} {o : Oper} {a : Act} {Q : Exit → Act → World → Prop} (hgd : o.guard = none) (s x : Operand)
  (ho : o.op = .call { callee := .builtin .append, args := #[s, x], argTypes := #[t, t] }) (base : Nat) (v : Value) (n : Nat) (xs ds : List Value) (hs : a.eval s = v) (hown : OwnD e w base v n xs) (ga go c : Nat)
  (hx : a.eval x = .slice (some ⟨ga, go, none⟩) 1 c) (hds : ds.length = 5) (hy : CellsAt w ga go ds) (h1 : ∀ u ∈ ds, u.oneCell' = true) (hb : base ≤ w.heap.size) (hlen : n ≤ 1073741824)
  (h : ∀ v' w', OwnD e w' base v' (n + 1) (xs ++ ds) → w.grownBy w' v.ownBlock → (v'.ownBlock = v.ownBlock ∨ v'.ownBlock = some w.heap.size) → wpList P ops Q rest (a.put o.dst v') w') : wpList P ops Q (o :: rest) a w := by
 obtain ⟨v', w', hr, h2, h3, h4⟩ := run_append_five E w base v n xs ds hown ga go c hds hy h1 hb hlen o.type
 refine wpList_plain hgd fun _ hK => ?_
 unfold Oper.wp execOp
 simp only [ho, resolve, invoke, builtin, Sem.run_bind, Sem.run_pure, Result.andThen_ok, List.map_toArray, List.map_cons, List.map_nil, hs, hx, hr]
 exact hK _ _ (h v' w' h2 h3 h4)
theorem VAt.leaf {n : Nat} {S : Nat → Prop} {w : World} {cs : List Value} {v : DV} (h : VAt n S w cs v) (hk : v.kids = []) : VAt 1 S w cs v := by
 cases n with
 | zero => exact h.elim
 | succ n =>
  obtain ⟨xb, sk, ck, h1, h2, h3, h4, h5, h6, _⟩ := h
  exact ⟨xb, sk, ck, h1, h2, h3, h4, h5, h6, fun hne => absurd hk hne⟩
theorem oidV_kids (s : Bs) : (oidV s).kids = [] := by
 cases h : oidVP s with
 | none => rw [oidV_no h]; rfl
 | some gs => rw [oidV_yes h]; rfl
theorem val_made {n : Nat} {S : Nat → Prop} {w : World} {B k cp : Nat} {c t : Int} {vs : List DV} (hk : vs.length = k) (hc : k ≤ cp) (hb : k ≤ 9223372036854775807) (hS : S B) (h : ∀ (j : Nat) (x : DV), vs[j]? = some x → ∃ ds, CellsAt w B (0 + j * 5) ds ∧ VAt n S w ds x) : VAt (n + 1) S w (dcells c t true (.slice none 0 0) (.slice (some ⟨B, 0, none⟩) k cp)) (.mk c t true [] vs) := by
 refine ⟨.slice none 0 0, some ⟨B, 0, none⟩, cp, ?_, bytes_nil w, fun h => absurd rfl h, ⟨by simp [DV.bytes], by simp only [DV.kids]; omega⟩, by simp only [DV.kids]; omega, fun e => (by cases e), fun _ => ⟨B, 0, rfl, hS, h⟩⟩
 simp only [DV.kids, hk]
 rfl
theorem five_cells {w0 w : World} {B o : Nat} {cs : Array Value} {T : TypeId} {ds : List Value} (h : K.Blk w0 w B cs T) (hd : ds.length = 5) (h5 : ∀ j, j < 5 → cs[o + j]? = ds[j]?) : CellsAt w B o ds := fun i y hi => by
 have hl : i < 5 := by rw [← hd]; exact (List.getElem?_eq_some_iff.1 hi).1
 exact h.cell _ _ (by rw [h5 i hl]; exact hi)
theorem qattr_made {S : Nat → Prop} {w0 w : World} {KB LB : Nat} {a : Bs × Bs} {T : Nat} {u0 u1 u2 u3 u4 t0 t1 t2 t3 t4 : Value} (hK : K.Blk w0 w KB #[u0, u1, u2, u3, u4, t0, t1, t2, t3, t4] 33) (hL : K.Blk w0 w LB #[.int .i64 0, .int .i64 16, .bool true, .slice none 0 0, .slice (some ⟨KB, 0, none⟩) 2 2] 33)
  (hu : VAt 1 S w [u0, u1, u2, u3, u4] (oidV a.1)) (ht : VAt 1 S w [t0, t1, t2, t3, t4] (.mk 0 (T : Int) false a.2 [])) (hT : textT a.2 = T) (sK : S KB) (sL : S LB) :
  VAt 3 S w [.int .i64 0, .int .i64 17, .bool true, .slice none 0 0, .slice (some ⟨LB, 0, none⟩) 1 1] (attrDV a) := by
 have five : ∀ j, j < 5 → j = 0 ∨ j = 1 ∨ j = 2 ∨ j = 3 ∨ j = 4 := fun j h => by omega
 have hp : VAt 2 S w (dcells 0 16 true (.slice none 0 0) (.slice (some ⟨KB, 0, none⟩) 2 2)) (pairDV a) := by
  unfold pairDV
  rw [hT]
  refine val_made rfl (Nat.le_refl _) (by omega) sK fun j x hj => ?_
  match j, hj with
  | 0, hj =>
   simp only [List.getElem?_cons_zero, Option.some.injEq] at hj
   subst hj
   exact ⟨_, five_cells hK (ds := [u0, u1, u2, u3, u4]) rfl (fun j h => by rcases five j h with rfl | rfl | rfl | rfl | rfl <;> rfl), hu⟩
  | 1, hj =>
   simp only [List.getElem?_cons_succ, List.getElem?_cons_zero, Option.some.injEq] at hj
   subst hj
   exact ⟨_, five_cells hK (ds := [t0, t1, t2, t3, t4]) rfl (fun j h => by rcases five j h with rfl | rfl | rfl | rfl | rfl <;> rfl), ht⟩
  | j + 2, hj => simp at hj
 unfold attrDV
 refine val_made (vs := [pairDV a]) rfl (Nat.le_refl _) (by omega) sL fun j x hj => ?_
 match j, hj with
 | 0, hj =>
  simp only [List.getElem?_cons_zero, Option.some.injEq] at hj
  subst hj
  exact ⟨_, five_cells hL (ds := [.int .i64 0, .int .i64 16, .bool true, .slice none 0 0, .slice (some ⟨KB, 0, none⟩) 2 2]) rfl (fun j h => by rcases five j h with rfl | rfl | rfl | rfl | rfl <;> rfl), hp⟩
 | j + 1, hj => simp at hj
theorem Made.blk {e : TypeId} {SR : Nat → Prop} {n : Nat} {w wr : World} {O R : Nat} {c t : Int} {md : Bool} {xb xk : Value} {ks : List DV} {i : Nat} {xs : List Value} (h : Made e SR n w wr O R c t md xb xk ks i xs) : K.Blk w wr R #[.int .i64 0, .int .i64 0, .bool false, .slice none 0 0, .slice none 0 0] e := ⟨h.res, h.b, h.old⟩
theorem dnV_text2 {d : List (Bs × Bs)} (h16 : d.length ≤ 16) (ho : ∀ x ∈ d, (oidVP x.1).isSome = true) (h : ∃ a ∈ d, textP a.2 = false) : dnV d = .no 31 := by
 obtain ⟨a, ha, ht⟩ := h
 exact dnV_text h16 ho ha ht
namespace Q
open N K
theorem qdnv_c (w : World) (sp : Option Addr) (n c : Nat) (d : List (Bs × Bs)) (hd : DnAt w (.slice sp n c) d) (hl : ∀ a ∈ d, a.1.length ≤ 1000000 ∧ a.2.length ≤ 1000000) (hn : d.length = n) (hn9 : n ≤ 1000000000) :
  Calls Tryz.prog 25 #[.slice sp n c] w fun e w' => ∃ ds : List Value, e = .returned (.tuple #[.agg ds.toArray, .int .i64 (errOf (dnV d) : Int)]) ∧ ValAt (fun k => w.heap.size ≤ k) w' ds (valOf (dnV d)) ∧ Below w.heap.size w w' := by
 obtain ⟨w1, R, hw1, eR, hR0⟩ := blkN (Below.refl w.heap.size w) #[.int .i64 0, .int .i64 0, .bool false, .slice none 0 0, .slice none 0 0] 33
 have HR := h_ hR0
 have H5 : Hid ((#[.int .i64 0, .int .i64 0, .bool false, .slice none 0 0, .slice none 0 0] : Array Value).all (·.oneCell') = true) := by show _ = true; simp [Value.oneCell']
 have Hd : Hid (∀ wr, Below w.heap.size w wr → DnAt wr (.slice sp n c) d) := fun wr hb => hd.below hb
 have Hl := h_ hl
 have Hn := h_ hn
 have HeR := h_ eR
 by_cases h16 : 16 < n
 ·obtain ⟨d1, d1n⟩ := ltLV 16 16 n
  have HE : Hid (errOf (dnV d) = 30 ∧ valOf (dnV d) = .mk 0 0 false [] []) := by rw [dnV_long (by omega)]; exact ⟨rfl, rfl⟩
  clear hR0 hd hl hn
  go_enter Tryz.func25, Tryz.ntmps25
  go_upto_region 2 with fail
  go_wp2_with (refine wpList_store_row rfl 33 _ _ rfl R _ rfl rfl 33 _ HR.res value5r rfl (u_ H5) ?_)
  exact bodyPost_ret (res_row_tmp Tryz.results25 _ _ R 33 #[.int .i64 0, .int .i64 0, .bool false, .slice none 0 0, .slice none 0 0] (0, 0) _ rfl (HR.set #[.int .i64 0, .int .i64 0, .bool false, .slice none 0 0, .slice none 0 0]).res Tryz.underlying33 rfl value5r _ rfl) rfl ⟨_, by rw [HE.1]; rfl, by rw [HE.2]; exact zero_val _ _, (HR.set #[.int .i64 0, .int .i64 0, .bool false, .slice none 0 0, .slice none 0 0]).b⟩
 obtain ⟨d1, d1n⟩ := ltLVf 16 16 n
 obtain ⟨w2, hw2⟩ := exq (w1.alloc (.cells #[.int .i64 0, .int .i64 16, .bool true, .slice none 0 0, .slice none 0 0] 33))
 obtain ⟨O, eO⟩ := exq w1.heap.size
 have HM0 : Hid (Made 33 (fun b => w.heap.size ≤ b) 3 w w2 O R 0 16 true (.slice none 0 0) (.slice none 0 0) (d.map attrDV) 0 []) := by
  have hb2 := allocB hw2
  have h2 := hR0.call hb2
  have hlt := hR0.lt
  exact ⟨by rw [← hw2, ← eO]; exact heap_alloc_new w1 _, h2.res, ownd_nil _ _ _, fun j k hj => by omega, by omega, h2.ge, h2.b⟩
 have Hw2 := h_ hw2
 clear hR0 hd hl hn hw2 HR
 go_enter Tryz.func25, Tryz.ntmps25
 go_wp2
 rw [u_ Hw2]
 clear d1 d1n hw1 eR eO Hw2
 go_loopw [5, 6] (fun ee ii wr => ∃ (i U ck : Nat) (sk : Option Addr) (xs : List Value), i ≤ n ∧ ee = .int .i64 (U : Int) ∧ ii = .int .i64 (i : Int) ∧ Hid (∀ a ∈ d.take i, (oidVP a.1).isSome = true) ∧ Hid ((U = 0 ∧ ∀ a ∈ d.take i, textP a.2 = true) ∨ (U = 31 ∧ ∃ a ∈ d.take i, textP a.2 = false)) ∧ Hid (Made 33 (fun b => w.heap.size ≤ b) 3 w wr O R 0 16 true (.slice none 0 0) (.slice sk i ck) (d.map attrDV) i xs)) (fun _ ii _ => n - (intOf ii).toNat)
 case atStart => exact ⟨0, 0, 0, none, [], by omega, rfl, rfl, fun a ha => by simp at ha, Or.inl ⟨rfl, fun a ha => by simp at ha⟩, HM0⟩
 case round =>
  clear HM0
  obtain ⟨i, U, ck, sk, xs, hi, rfl, rfl, HO, HU, HM⟩ := hrel
  by_cases hlt : i < n
  ·obtain ⟨a, bb, oo, hda, rfl, hc1, hc2⟩ := dnc_at (u_ Hd wr HM.b) (k := i) (by have := u_ Hn; omega)
   obtain ⟨f1, f1n⟩ := ltVV i n
   have k0 : (0 : Int) ≤ (i : Int) := by omega
   have k1 : (i : Int) < (n : Int) := by omega
   have Hda := h_ hda
   obtain ⟨ty, hty⟩ := exq (st a.1)
   obtain ⟨tx, htx⟩ := exq (st a.2)
   rw [hty] at hc1
   rw [htx] at hc2
   have Hty : Hid (bs ty = a.1) := by show _ = _; rw [← hty, bs_st]
   have Htx : Hid (bs tx = a.2) := by show _ = _; rw [← htx, bs_st]
   have Hsy : Hid (ty.size ≤ 1000000) := by show _ ≤ _; rw [← bs_len, u_ Hty]; exact (u_ Hl a (List.mem_of_getElem? hda)).1
   have Hsx : Hid (tx.size ≤ 1000000) := by show _ ≤ _; rw [← bs_len, u_ Htx]; exact (u_ Hl a (List.mem_of_getElem? hda)).2
   have HSx : Hid (∀ w', Below wr.heap.size wr w' → w'.cell? ⟨bb, oo + i * 2 + 1, none⟩ = some (.string tx)) := fun w' hb => by rw [hb.cell (p := ⟨bb, oo + i * 2 + 1, none⟩) (World.block_lt_of_cell? wr _ hc2)]; exact hc2
   have Hov := h_ (qoidv_c wr ty (u_ Hsy))
   rw [u_ Hty] at Hov
   have HMd : Hid (d.take (i + 1) = d.take i ++ [a]) := by show _ = _; rw [List.take_add_one, hda]; rfl
   clear hda hty htx hc2
   go_wp2_with fail
   refine Hov.mono ?_
   rintro e w4 ⟨cs4, rfl, hv4, hb⟩
   have HM4 := h_ (HM.below hb)
   obtain ⟨n4, hv4⟩ := hv4
   obtain ⟨p1, q1, p2, q2, rfl⟩ := hv4.form
   have HV4 := h_ (hv4.leaf (oidV_kids _))
   have HB4 := h_ hb
   obtain ⟨vc, hvc⟩ := exq ((oidV a.1).cls)
   obtain ⟨vt, hvt⟩ := exq ((oidV a.1).tag)
   obtain ⟨vm, hvm⟩ := exq ((oidV a.1).made)
   obtain ⟨vl, hvl⟩ := exq ((oidV a.1).bytes.length)
   obtain ⟨vk, hvk⟩ := exq ((oidV a.1).kids.length)
   simp only [hvc, hvt, hvm, hvl, hvk] at HV4 ⊢
   clear hvc hvt hvm hvl hvk hv4 hb Hov hc1
   unfold dcells at HV4 ⊢
   obtain ⟨w5, Y, hw5, eY, hY⟩ := blkN (u_ HB4) #[.int .i64 vc, .int .i64 vt, .bool vm, .slice p1 vl q1, .slice p2 vk q2] 33
   have hb := allocB hw5
   have HM5 := h_ (HM4.below hb)
   have HV5 := h_ (HV4.below hb)
   have HY5 := h_ hY
   have c2 := u_ HSx w5 hY.b
   clear hY hb HM4 HV4 HB4
   obtain ⟨OK, hOK⟩ := exq ((oidVP a.1).isSome)
   rw [hOK]
   cases OK with
   | false =>
    have HE : Hid (errOf (dnV d) = 30 ∧ valOf (dnV d) = .mk 0 0 false [] []) := by rw [dnV_oid (List.mem_of_getElem? (u_ Hda)) hOK]; exact ⟨rfl, rfl⟩
    have HRz := h_ HM5.blk
    clear hOK HV5 c2
    go_upto_region 10 with fail
    go_wp2_with (refine wpList_store_row rfl 33 _ _ rfl R _ rfl rfl 33 _ HRz.res value5r rfl (u_ H5) ?_)
    exact bodyPost_ret (res_row_tmp Tryz.results25 _ _ R 33 #[.int .i64 0, .int .i64 0, .bool false, .slice none 0 0, .slice none 0 0] (0, 0) _ rfl (HRz.set #[.int .i64 0, .int .i64 0, .bool false, .slice none 0 0, .slice none 0 0]).res Tryz.underlying33 rfl value5r _ rfl) rfl ⟨_, by rw [HE.1]; rfl, by rw [HE.2]; exact zero_val _ _, (HRz.set #[.int .i64 0, .int .i64 0, .bool false, .slice none 0 0, .slice none 0 0]).b⟩
   | true =>
    have HO2 : Hid (∀ x ∈ d.take (i + 1), (oidVP x.1).isSome = true) := fun x hx => by
     rw [u_ HMd, List.mem_append, List.mem_singleton] at hx
     rcases hx with hx | rfl
     ·exact u_ HO x hx
     ·exact hOK
    clear hOK HO
    obtain ⟨P, hP⟩ := exq (textP a.2)
    have Hit := h_ (qtexty_c w5 tx (u_ Hsx))
    rw [u_ Htx, hP] at Hit
    obtain ⟨U2, hU2⟩ := exq (if P = true then U else 31)
    have HU2 : Hid ((U2 = 0 ∧ ∀ x ∈ d.take (i + 1), textP x.2 = true) ∨ (U2 = 31 ∧ ∃ x ∈ d.take (i + 1), textP x.2 = false)) := by
     rw [u_ HMd]
     cases P with
     | false => exact Or.inr ⟨hU2.symm, a, List.mem_append.2 (Or.inr (List.mem_singleton.2 rfl)), hP⟩
     | true =>
      obtain rfl : U = U2 := hU2
      rcases u_ HU with ⟨h1, h2⟩ | ⟨h1, x, h2, h3⟩
      ·refine Or.inl ⟨h1, fun x hx => ?_⟩
       rw [List.mem_append, List.mem_singleton] at hx
       rcases hx with hx | rfl
       ·exact h2 x hx
       ·exact hP
      ·exact Or.inr ⟨h1, x, List.mem_append.2 (Or.inl h2), h3⟩
    have HUe := h_ hU2
    clear hP hU2 HU
    go_wp2_with fail
    refine Hit.mono ?_
    rintro e w6 ⟨rfl, hb⟩
    have HM6 := h_ (HM5.below hb)
    have HV6 := h_ (HV5.below hb)
    have HY6 := h_ (HY5.call hb)
    obtain ⟨T, hT⟩ := exq (textT a.2)
    have HTt := h_ hT
    have Htag : Hid (∀ wr : World, Calls Tryz.prog 60 #[.string tx] wr fun e w' => e = .returned (.int .i64 (T : Int)) ∧ w' = wr) := fun wr => by
     have h := qkind_c wr tx (u_ Hsx)
     rw [u_ Htx, hT] at h
     exact h
    obtain ⟨NT, hNT⟩ := exq tx.size
    have HNT := h_ hNT
    have HSy : Hid (∀ w', Below w6.heap.size w6 w' → w'.cell? ⟨bb, oo + i * 2 + 1, none⟩ = some (.string tx)) := fun w' hb' => u_ HSx w' (HY6.call hb').b
    clear hb hT hNT Hit HM5 HV5 HY5 c2 hw5 eY HSx
    cases P
    all_goals go_upto_region 13 with fail
    all_goals
     refine wp_region_held_drew (S := fun w' => w'.cell? ⟨bb, oo + i * 2 + 1, none⟩ = some (.string tx)) (by kernel_rfl) (u_ HSy _ (Below.refl _ _).drew) (fun hHeld => ?_)
     obtain ⟨x0, hx0⟩ := exq w6.drew
     have HB0 : Hid (Below w6.heap.size w6 x0) := by show Below _ _ _; rw [← hx0]; exact (Below.refl _ _).drew
     rw [hx0] at hHeld ⊢
     clear hx0
     refine wpAnyH_take (i := 0) (oi := { dst := some 41, op := .move (.tmp 0), type := 59, pos := "ref.go:249", after := #[], guard := none }) (v := ?_) rfl (by kernel_rfl) (by kernel_rfl) (by kernel_rfl) (fun _ _ _ h => h) (Or.inl ⟨by rfl, ?y1⟩) (by assumption) ?_
     case y1 => (intro w_ hSw; (try dsimp only at hSw); go_simp; try with_reducible rfl)
     simp only [Act.put, s1_, s2_, s3_]
     refine wpAnyH_take (i := 1) (oi := { dst := some 42, op := .move (.tmp 6), type := 3, pos := "ref.go:249", after := #[], guard := none }) (v := ?_) rfl (by kernel_rfl) (by kernel_rfl) (by kernel_rfl) (fun _ _ _ h => h) (Or.inl ⟨by rfl, ?y2⟩) (by assumption) ?_
     case y2 => (intro w_ hSw; (try dsimp only at hSw); go_simp; try with_reducible rfl)
     simp only [Act.put, s1_, s2_, s3_]
     refine wpAnyH_take (i := 2) (oi := { dst := some 43, op := .indexAddr 59 (.tmp 41) (.tmp 42), type := 0, pos := "ref.go:249", after := #[{ on := 0, ground := .data }, { on := 1, ground := .data }], guard := none }) (v := ?_) rfl (by kernel_rfl) (by kernel_rfl) (by kernel_rfl) (fun _ _ _ h => h) (Or.inl ⟨by rfl, ?y3⟩) (by assumption) ?_
     case y3 => (intro w_ hSw; (try dsimp only at hSw); go_simp; try with_reducible rfl)
     simp only [Act.put, s1_, s2_, s3_]
     refine wpAnyH_take (i := 3) (oi := { dst := some 44, op := .fieldAddr 110 (.tmp 43) 1, type := 0, pos := "ref.go:249", after := #[{ on := 2, ground := .data }], guard := none }) (v := ?_) rfl (by kernel_rfl) (by kernel_rfl) (by kernel_rfl) (fun _ _ _ h => h) (Or.inl ⟨by rfl, ?y4⟩) (by assumption) ?_
     case y4 => (intro w_ hSw; (try dsimp only at hSw); go_simp; try with_reducible rfl)
     simp only [Act.put, s1_, s2_, s3_]
     refine wpAnyH_take (i := 4) (oi := { dst := some 45, op := .load 9 (.tmp 44), type := 9, pos := "ref.go:249", after := #[{ on := 3, ground := .data }], guard := none }) (v := ?_) rfl (by kernel_rfl) (by kernel_rfl) (by kernel_rfl) (fun _ _ _ h => h) (Or.inl ⟨by rfl, ?y5⟩) (by assumption) ?_
     case y5 => (intro w_ hSw; (try dsimp only at hSw); go_simp; try with_reducible rfl)
     simp only [Act.put, s1_, s2_, s3_]
     refine wpAnyH_take (i := 6) (oi := { dst := some 47, op := .move (.tmp 0), type := 59, pos := "ref.go:249", after := #[], guard := none }) (v := ?_) rfl (by kernel_rfl) (by kernel_rfl) (by kernel_rfl) (fun _ _ _ h => h) (Or.inl ⟨by rfl, ?y6⟩) (by assumption) ?_
     case y6 => (intro w_ hSw; (try dsimp only at hSw); go_simp; try with_reducible rfl)
     simp only [Act.put, s1_, s2_, s3_]
     refine wpAnyH_take (i := 7) (oi := { dst := some 48, op := .move (.tmp 6), type := 3, pos := "ref.go:249", after := #[], guard := none }) (v := ?_) rfl (by kernel_rfl) (by kernel_rfl) (by kernel_rfl) (fun _ _ _ h => h) (Or.inl ⟨by rfl, ?y7⟩) (by assumption) ?_
     case y7 => (intro w_ hSw; (try dsimp only at hSw); go_simp; try with_reducible rfl)
     simp only [Act.put, s1_, s2_, s3_]
     refine wpAnyH_take (i := 8) (oi := { dst := some 49, op := .indexAddr 59 (.tmp 47) (.tmp 48), type := 0, pos := "ref.go:249", after := #[{ on := 6, ground := .data }, { on := 7, ground := .data }], guard := none }) (v := ?_) rfl (by kernel_rfl) (by kernel_rfl) (by kernel_rfl) (fun _ _ _ h => h) (Or.inl ⟨by rfl, ?y8⟩) (by assumption) ?_
     case y8 => (intro w_ hSw; (try dsimp only at hSw); go_simp; try with_reducible rfl)
     simp only [Act.put, s1_, s2_, s3_]
     refine wpAnyH_take (i := 9) (oi := { dst := some 50, op := .fieldAddr 110 (.tmp 49) 1, type := 0, pos := "ref.go:249", after := #[{ on := 8, ground := .data }], guard := none }) (v := ?_) rfl (by kernel_rfl) (by kernel_rfl) (by kernel_rfl) (fun _ _ _ h => h) (Or.inl ⟨by rfl, ?y9⟩) (by assumption) ?_
     case y9 => (intro w_ hSw; (try dsimp only at hSw); go_simp; try with_reducible rfl)
     simp only [Act.put, s1_, s2_, s3_]
     refine wpAnyH_take (i := 10) (oi := { dst := some 51, op := .load 9 (.tmp 50), type := 9, pos := "ref.go:249", after := #[{ on := 9, ground := .data }], guard := none }) (v := ?_) rfl (by kernel_rfl) (by kernel_rfl) (by kernel_rfl) (fun _ _ _ h => h) (Or.inl ⟨by rfl, ?y10⟩) (by assumption) ?_
     case y10 => (intro w_ hSw; (try dsimp only at hSw); go_simp; try with_reducible rfl)
     simp only [Act.put, s1_, s2_, s3_]
     refine wpAnyH_ready (rs := [5, 11, 13]) (by kernel_rfl) (by simp) ?_
     refine (AllReadyH.cons (o := { dst := some 46, op := .call { callee := .value (.func 60), args := #[.tmp 45], argTypes := #[9] }, type := 3, pos := "ref.go:249", after := #[{ on := 4, ground := .data }], guard := none }) rfl (fun K_ hK_ => ?_) (AllReadyH.cons (o := { dst := some 52, op := .convert 9 22 (.tmp 51), type := 22, pos := "ref.go:249", after := #[{ on := 10, ground := .data }], guard := none }) rfl (fun K_ hK_ => ?_) (AllReadyH.cons (o := { dst := some 9, op := .alloc 33, type := 0, pos := "ref.go:249", after := #[], guard := none }) rfl (fun K_ hK_ => ?_) AllReadyH.nil)))
     go_simp
     go_at_call 60
     refine (u_ Htag x0).mono ?_
     rintro e w_ ⟨rfl, hw_⟩
     have hws := hw_.symm
     subst hws
     go_simp
     refine hK_.out _ _ (u_ HSy x0 (u_ HB0)) (fun hHeld => ?_)
     clear hK_ K_
     refine wpAnyH_ready (rs := [11, 13]) (by kernel_rfl) (by simp) ?_
     refine (AllReadyH.cons (o := { dst := some 52, op := .convert 9 22 (.tmp 51), type := 22, pos := "ref.go:249", after := #[{ on := 10, ground := .data }], guard := none }) rfl (fun K_ hK_ => ?_) (AllReadyH.cons (o := { dst := some 9, op := .alloc 33, type := 0, pos := "ref.go:249", after := #[], guard := none }) rfl (fun K_ hK_ => ?_) AllReadyH.nil))
     obtain ⟨cp, x1, hcv, hby, hb, hsz⟩ := conv_bytes2 x0 tx
     obtain ⟨BB, hBB⟩ := exq x0.heap.size
     rw [hBB, u_ HNT] at hcv hby
     have HB1 := h_ (HB0.trans (hb.mono HB0.size))
     have HY1 : Hid (BytesAt x1 (.slice (some ⟨BB, 0, none⟩) NT cp) (bs tx) ∧ w6.heap.size ≤ BB ∧ BB < x1.heap.size) := ⟨hby, by have := HB0.size; omega, by omega⟩
     go_simp
     clear hb hby hBB hsz hcv
     refine hK_.out _ _ (u_ HSy x1 (u_ HB1)) (fun hHeld => ?_)
     clear hK_ K_
     refine wpAnyH_take (i := 12) (oi := { dst := some 53, op := .build 33 #[(1, .tmp 46), (3, .tmp 52)], type := 33, pos := "ref.go:249", after := #[{ on := 5, ground := .data }, { on := 11, ground := .data }], guard := none }) (v := ?_) rfl (by kernel_rfl) (by kernel_rfl) (by kernel_rfl) (fun _ _ _ h => h) (Or.inl ⟨by rfl, ?y11⟩) (by assumption) ?_
     case y11 => (intro w_ hSw; (try dsimp only at hSw); go_simp; try with_reducible rfl)
     simp only [Act.put, s1_, s2_, s3_]
     refine wpAnyH_ready (rs := [13]) (by kernel_rfl) (by simp) ?_
     refine (AllReadyH.cons (o := { dst := some 9, op := .alloc 33, type := 0, pos := "ref.go:249", after := #[], guard := none }) rfl (fun K_ hK_ => ?_) AllReadyH.nil)
     obtain ⟨x2, TB, hc2, hTBe, hTn⟩ := blkN (u_ HB1) #[.int .i64 0, .int .i64 0, .bool false, .slice none 0 0, .slice none 0 0] 33
     have hb := allocB hc2
     have HB2 := h_ (HB1.trans (hb.mono HB1.size))
     have HY2 : Hid (BytesAt x2 (.slice (some ⟨BB, 0, none⟩) NT cp) (bs tx) ∧ w6.heap.size ≤ BB ∧ BB < x2.heap.size) := ⟨HY1.1.below hb, HY1.2.1, by have h1 := HY1.2.2; have h2 := hb.size; omega⟩
     have HT2 := h_ hTn
     have HTB : Hid (TB ≠ BB) := by have h1 := HY1.2.2; show _ ≠ _; omega
     go_simp
     clear hb hTn hc2 hTBe
     refine hK_.out _ _ (u_ HSy x2 (u_ HB2)) (fun hHeld => ?_)
     clear hK_ K_
     refine wpAnyH_ready (rs := [14]) (by kernel_rfl) (by simp) ?_
     refine (AllReadyH.cons (o := { dst := none, op := .store 33 (.tmp 9) (.tmp 53), type := 0, pos := "ref.go:249", after := #[{ on := 13, ground := .data }, { on := 12, ground := .data }, { on := 5, ground := .chain }, { on := 0, ground := .phase }, { on := 1, ground := .phase }, { on := 2, ground := .phase }, { on := 3, ground := .phase }, { on := 4, ground := .phase }, { on := 5, ground := .phase }, { on := 6, ground := .phase }, { on := 7, ground := .phase }, { on := 8, ground := .phase }, { on := 9, ground := .phase }, { on := 10, ground := .phase }, { on := 11, ground := .phase }, { on := 12, ground := .phase }, { on := 13, ground := .phase }], guard := none }) rfl (fun K_ hK_ => ?_) AllReadyH.nil)
     have hw_ : (#[.int .i64 0, .int .i64 (T : Int), .bool false, .slice (some ⟨BB, 0, none⟩) NT cp, .slice none 0 0] : Array Value).all (·.oneCell') = true := by simp [Value.oneCell']
     obtain ⟨w9, hw9⟩ := exq (x2.setRow TB #[.int .i64 0, .int .i64 (T : Int), .bool false, .slice (some ⟨BB, 0, none⟩) NT cp, .slice none 0 0])
     have HT9 : Hid (Blk w6 w9 TB #[.int .i64 0, .int .i64 (T : Int), .bool false, .slice (some ⟨BB, 0, none⟩) NT cp, .slice none 0 0] 33) := by show Blk _ _ _ _ _; rw [← hw9]; exact HT2.set _
     have HY9 : Hid (BytesAt w9 (.slice (some ⟨BB, 0, none⟩) NT cp) (bs tx) ∧ w6.heap.size ≤ BB) := ⟨by show BytesAt _ _ _; rw [← hw9]; exact bytes_setRow HY2.1 TB (u_ HTB) _, HY2.2.1⟩
     rw [if_pos (by rfl)]
     refine wp_store_row 33 _ _ rfl TB #[.int .i64 0, .int .i64 (T : Int), .bool false, .slice (some ⟨BB, 0, none⟩) NT cp, .slice none 0 0] rfl rfl 33 _ HT2.res value5r rfl hw_ ?_
     rw [hw9]
     clear hw9 hw_
     refine hK_.out _ _ (u_ HSy w9 HT9.b) (fun hHeld => ?_)
     clear hK_ K_
     refine wpAnyH_done (by kernel_rfl) ?_ _
     clear hHeld HB0 HB1 HB2 HT2 HY2
     rotate_left
     obtain ⟨x1, TB, hc2, hTBe, hTn⟩ := blkN (u_ HB0) #[.int .i64 0, .int .i64 0, .bool false, .slice none 0 0, .slice none 0 0] 33
     have hb := allocB hc2
     have HB1 := h_ (HB0.trans (hb.mono HB0.size))
     have HT1 := h_ hTn
     go_simp
     clear hb hTn hc2 hTBe
     refine hK_.out _ _ (u_ HSy x1 (u_ HB1)) (fun hHeld => ?_)
     clear hK_ K_
     refine wpAnyH_ready (rs := [11]) (by kernel_rfl) (by simp) ?_
     refine (AllReadyH.cons (o := { dst := some 52, op := .convert 9 22 (.tmp 51), type := 22, pos := "ref.go:249", after := #[{ on := 10, ground := .data }], guard := none }) rfl (fun K_ hK_ => ?_) AllReadyH.nil)
     obtain ⟨cp, x2, hcv, hby, hb, hsz⟩ := conv_bytes2 x1 tx
     obtain ⟨BB, hBB⟩ := exq x1.heap.size
     rw [hBB, u_ HNT] at hcv hby
     have HB2 := h_ (HB1.trans (hb.mono HB1.size))
     have HT2 := h_ (HT1.call hb)
     have HY2 : Hid (BytesAt x2 (.slice (some ⟨BB, 0, none⟩) NT cp) (bs tx) ∧ w6.heap.size ≤ BB ∧ BB < x2.heap.size) := ⟨hby, by have := HB1.size; omega, by omega⟩
     have HTB : Hid (TB ≠ BB) := by have h1 := HT1.lt; show _ ≠ _; omega
     go_simp
     clear hb hby hBB hsz hcv
     refine hK_.out _ _ (u_ HSy x2 (u_ HB2)) (fun hHeld => ?_)
     clear hK_ K_
     refine wpAnyH_take (i := 12) (oi := { dst := some 53, op := .build 33 #[(1, .tmp 46), (3, .tmp 52)], type := 33, pos := "ref.go:249", after := #[{ on := 5, ground := .data }, { on := 11, ground := .data }], guard := none }) (v := ?_) rfl (by kernel_rfl) (by kernel_rfl) (by kernel_rfl) (fun _ _ _ h => h) (Or.inl ⟨by rfl, ?y12⟩) (by assumption) ?_
     case y12 => (intro w_ hSw; (try dsimp only at hSw); go_simp; try with_reducible rfl)
     simp only [Act.put, s1_, s2_, s3_]
     refine wpAnyH_ready (rs := [14]) (by kernel_rfl) (by simp) ?_
     refine (AllReadyH.cons (o := { dst := none, op := .store 33 (.tmp 9) (.tmp 53), type := 0, pos := "ref.go:249", after := #[{ on := 13, ground := .data }, { on := 12, ground := .data }, { on := 5, ground := .chain }, { on := 0, ground := .phase }, { on := 1, ground := .phase }, { on := 2, ground := .phase }, { on := 3, ground := .phase }, { on := 4, ground := .phase }, { on := 5, ground := .phase }, { on := 6, ground := .phase }, { on := 7, ground := .phase }, { on := 8, ground := .phase }, { on := 9, ground := .phase }, { on := 10, ground := .phase }, { on := 11, ground := .phase }, { on := 12, ground := .phase }, { on := 13, ground := .phase }], guard := none }) rfl (fun K_ hK_ => ?_) AllReadyH.nil)
     have hw_ : (#[.int .i64 0, .int .i64 (T : Int), .bool false, .slice (some ⟨BB, 0, none⟩) NT cp, .slice none 0 0] : Array Value).all (·.oneCell') = true := by simp [Value.oneCell']
     obtain ⟨w9, hw9⟩ := exq (x2.setRow TB #[.int .i64 0, .int .i64 (T : Int), .bool false, .slice (some ⟨BB, 0, none⟩) NT cp, .slice none 0 0])
     have HT9 : Hid (Blk w6 w9 TB #[.int .i64 0, .int .i64 (T : Int), .bool false, .slice (some ⟨BB, 0, none⟩) NT cp, .slice none 0 0] 33) := by show Blk _ _ _ _ _; rw [← hw9]; exact HT2.set _
     have HY9 : Hid (BytesAt w9 (.slice (some ⟨BB, 0, none⟩) NT cp) (bs tx) ∧ w6.heap.size ≤ BB) := ⟨by show BytesAt _ _ _; rw [← hw9]; exact bytes_setRow HY2.1 TB (u_ HTB) _, HY2.2.1⟩
     rw [if_pos (by rfl)]
     refine wp_store_row 33 _ _ rfl TB #[.int .i64 0, .int .i64 (T : Int), .bool false, .slice (some ⟨BB, 0, none⟩) NT cp, .slice none 0 0] rfl rfl 33 _ HT2.res value5r rfl hw_ ?_
     rw [hw9]
     clear hw9 hw_
     refine hK_.out _ _ (u_ HSy w9 HT9.b) (fun hHeld => ?_)
     clear hK_ K_
     refine wpAnyH_done (by kernel_rfl) ?_ _
     clear hHeld HB0 HB1 HB2 HT2 HY2
     rotate_left
     obtain ⟨cp, x1, hcv, hby, hb, hsz⟩ := conv_bytes2 x0 tx
     obtain ⟨BB, hBB⟩ := exq x0.heap.size
     rw [hBB, u_ HNT] at hcv hby
     have HB1 := h_ (HB0.trans (hb.mono HB0.size))
     have HY1 : Hid (BytesAt x1 (.slice (some ⟨BB, 0, none⟩) NT cp) (bs tx) ∧ w6.heap.size ≤ BB ∧ BB < x1.heap.size) := ⟨hby, by have := HB0.size; omega, by omega⟩
     go_simp
     clear hb hby hBB hsz hcv
     refine hK_.out _ _ (u_ HSy x1 (u_ HB1)) (fun hHeld => ?_)
     clear hK_ K_
     refine wpAnyH_ready (rs := [5, 13]) (by kernel_rfl) (by simp) ?_
     refine (AllReadyH.cons (o := { dst := some 46, op := .call { callee := .value (.func 60), args := #[.tmp 45], argTypes := #[9] }, type := 3, pos := "ref.go:249", after := #[{ on := 4, ground := .data }], guard := none }) rfl (fun K_ hK_ => ?_) (AllReadyH.cons (o := { dst := some 9, op := .alloc 33, type := 0, pos := "ref.go:249", after := #[], guard := none }) rfl (fun K_ hK_ => ?_) AllReadyH.nil))
     go_simp
     go_at_call 60
     refine (u_ Htag x1).mono ?_
     rintro e w_ ⟨rfl, hw_⟩
     have hws := hw_.symm
     subst hws
     go_simp
     refine hK_.out _ _ (u_ HSy x1 (u_ HB1)) (fun hHeld => ?_)
     clear hK_ K_
     refine wpAnyH_take (i := 12) (oi := { dst := some 53, op := .build 33 #[(1, .tmp 46), (3, .tmp 52)], type := 33, pos := "ref.go:249", after := #[{ on := 5, ground := .data }, { on := 11, ground := .data }], guard := none }) (v := ?_) rfl (by kernel_rfl) (by kernel_rfl) (by kernel_rfl) (fun _ _ _ h => h) (Or.inl ⟨by rfl, ?y13⟩) (by assumption) ?_
     case y13 => (intro w_ hSw; (try dsimp only at hSw); go_simp; try with_reducible rfl)
     simp only [Act.put, s1_, s2_, s3_]
     refine wpAnyH_ready (rs := [13]) (by kernel_rfl) (by simp) ?_
     refine (AllReadyH.cons (o := { dst := some 9, op := .alloc 33, type := 0, pos := "ref.go:249", after := #[], guard := none }) rfl (fun K_ hK_ => ?_) AllReadyH.nil)
     obtain ⟨x2, TB, hc2, hTBe, hTn⟩ := blkN (u_ HB1) #[.int .i64 0, .int .i64 0, .bool false, .slice none 0 0, .slice none 0 0] 33
     have hb := allocB hc2
     have HB2 := h_ (HB1.trans (hb.mono HB1.size))
     have HY2 : Hid (BytesAt x2 (.slice (some ⟨BB, 0, none⟩) NT cp) (bs tx) ∧ w6.heap.size ≤ BB ∧ BB < x2.heap.size) := ⟨HY1.1.below hb, HY1.2.1, by have h1 := HY1.2.2; have h2 := hb.size; omega⟩
     have HT2 := h_ hTn
     have HTB : Hid (TB ≠ BB) := by have h1 := HY1.2.2; show _ ≠ _; omega
     go_simp
     clear hb hTn hc2 hTBe
     refine hK_.out _ _ (u_ HSy x2 (u_ HB2)) (fun hHeld => ?_)
     clear hK_ K_
     refine wpAnyH_ready (rs := [14]) (by kernel_rfl) (by simp) ?_
     refine (AllReadyH.cons (o := { dst := none, op := .store 33 (.tmp 9) (.tmp 53), type := 0, pos := "ref.go:249", after := #[{ on := 13, ground := .data }, { on := 12, ground := .data }, { on := 5, ground := .chain }, { on := 0, ground := .phase }, { on := 1, ground := .phase }, { on := 2, ground := .phase }, { on := 3, ground := .phase }, { on := 4, ground := .phase }, { on := 5, ground := .phase }, { on := 6, ground := .phase }, { on := 7, ground := .phase }, { on := 8, ground := .phase }, { on := 9, ground := .phase }, { on := 10, ground := .phase }, { on := 11, ground := .phase }, { on := 12, ground := .phase }, { on := 13, ground := .phase }], guard := none }) rfl (fun K_ hK_ => ?_) AllReadyH.nil)
     have hw_ : (#[.int .i64 0, .int .i64 (T : Int), .bool false, .slice (some ⟨BB, 0, none⟩) NT cp, .slice none 0 0] : Array Value).all (·.oneCell') = true := by simp [Value.oneCell']
     obtain ⟨w9, hw9⟩ := exq (x2.setRow TB #[.int .i64 0, .int .i64 (T : Int), .bool false, .slice (some ⟨BB, 0, none⟩) NT cp, .slice none 0 0])
     have HT9 : Hid (Blk w6 w9 TB #[.int .i64 0, .int .i64 (T : Int), .bool false, .slice (some ⟨BB, 0, none⟩) NT cp, .slice none 0 0] 33) := by show Blk _ _ _ _ _; rw [← hw9]; exact HT2.set _
     have HY9 : Hid (BytesAt w9 (.slice (some ⟨BB, 0, none⟩) NT cp) (bs tx) ∧ w6.heap.size ≤ BB) := ⟨by show BytesAt _ _ _; rw [← hw9]; exact bytes_setRow HY2.1 TB (u_ HTB) _, HY2.2.1⟩
     rw [if_pos (by rfl)]
     refine wp_store_row 33 _ _ rfl TB #[.int .i64 0, .int .i64 (T : Int), .bool false, .slice (some ⟨BB, 0, none⟩) NT cp, .slice none 0 0] rfl rfl 33 _ HT2.res value5r rfl hw_ ?_
     rw [hw9]
     clear hw9 hw_
     refine hK_.out _ _ (u_ HSy w9 HT9.b) (fun hHeld => ?_)
     clear hK_ K_
     refine wpAnyH_done (by kernel_rfl) ?_ _
     clear hHeld HB0 HB1 HB2 HT2 HY2
     rotate_left
     obtain ⟨x2, TB, hc2, hTBe, hTn⟩ := blkN (u_ HB1) #[.int .i64 0, .int .i64 0, .bool false, .slice none 0 0, .slice none 0 0] 33
     have hb := allocB hc2
     have HB2 := h_ (HB1.trans (hb.mono HB1.size))
     have HY2 : Hid (BytesAt x2 (.slice (some ⟨BB, 0, none⟩) NT cp) (bs tx) ∧ w6.heap.size ≤ BB ∧ BB < x2.heap.size) := ⟨HY1.1.below hb, HY1.2.1, by have h1 := HY1.2.2; have h2 := hb.size; omega⟩
     have HT2 := h_ hTn
     have HTB : Hid (TB ≠ BB) := by have h1 := HY1.2.2; show _ ≠ _; omega
     go_simp
     clear hb hTn hc2 hTBe
     refine hK_.out _ _ (u_ HSy x2 (u_ HB2)) (fun hHeld => ?_)
     clear hK_ K_
     refine wpAnyH_ready (rs := [5]) (by kernel_rfl) (by simp) ?_
     refine (AllReadyH.cons (o := { dst := some 46, op := .call { callee := .value (.func 60), args := #[.tmp 45], argTypes := #[9] }, type := 3, pos := "ref.go:249", after := #[{ on := 4, ground := .data }], guard := none }) rfl (fun K_ hK_ => ?_) AllReadyH.nil)
     go_simp
     go_at_call 60
     refine (u_ Htag x2).mono ?_
     rintro e w_ ⟨rfl, hw_⟩
     have hws := hw_.symm
     subst hws
     go_simp
     refine hK_.out _ _ (u_ HSy x2 (u_ HB2)) (fun hHeld => ?_)
     clear hK_ K_
     refine wpAnyH_take (i := 12) (oi := { dst := some 53, op := .build 33 #[(1, .tmp 46), (3, .tmp 52)], type := 33, pos := "ref.go:249", after := #[{ on := 5, ground := .data }, { on := 11, ground := .data }], guard := none }) (v := ?_) rfl (by kernel_rfl) (by kernel_rfl) (by kernel_rfl) (fun _ _ _ h => h) (Or.inl ⟨by rfl, ?y14⟩) (by assumption) ?_
     case y14 => (intro w_ hSw; (try dsimp only at hSw); go_simp; try with_reducible rfl)
     simp only [Act.put, s1_, s2_, s3_]
     refine wpAnyH_ready (rs := [14]) (by kernel_rfl) (by simp) ?_
     refine (AllReadyH.cons (o := { dst := none, op := .store 33 (.tmp 9) (.tmp 53), type := 0, pos := "ref.go:249", after := #[{ on := 13, ground := .data }, { on := 12, ground := .data }, { on := 5, ground := .chain }, { on := 0, ground := .phase }, { on := 1, ground := .phase }, { on := 2, ground := .phase }, { on := 3, ground := .phase }, { on := 4, ground := .phase }, { on := 5, ground := .phase }, { on := 6, ground := .phase }, { on := 7, ground := .phase }, { on := 8, ground := .phase }, { on := 9, ground := .phase }, { on := 10, ground := .phase }, { on := 11, ground := .phase }, { on := 12, ground := .phase }, { on := 13, ground := .phase }], guard := none }) rfl (fun K_ hK_ => ?_) AllReadyH.nil)
     have hw_ : (#[.int .i64 0, .int .i64 (T : Int), .bool false, .slice (some ⟨BB, 0, none⟩) NT cp, .slice none 0 0] : Array Value).all (·.oneCell') = true := by simp [Value.oneCell']
     obtain ⟨w9, hw9⟩ := exq (x2.setRow TB #[.int .i64 0, .int .i64 (T : Int), .bool false, .slice (some ⟨BB, 0, none⟩) NT cp, .slice none 0 0])
     have HT9 : Hid (Blk w6 w9 TB #[.int .i64 0, .int .i64 (T : Int), .bool false, .slice (some ⟨BB, 0, none⟩) NT cp, .slice none 0 0] 33) := by show Blk _ _ _ _ _; rw [← hw9]; exact HT2.set _
     have HY9 : Hid (BytesAt w9 (.slice (some ⟨BB, 0, none⟩) NT cp) (bs tx) ∧ w6.heap.size ≤ BB) := ⟨by show BytesAt _ _ _; rw [← hw9]; exact bytes_setRow HY2.1 TB (u_ HTB) _, HY2.2.1⟩
     rw [if_pos (by rfl)]
     refine wp_store_row 33 _ _ rfl TB #[.int .i64 0, .int .i64 (T : Int), .bool false, .slice (some ⟨BB, 0, none⟩) NT cp, .slice none 0 0] rfl rfl 33 _ HT2.res value5r rfl hw_ ?_
     rw [hw9]
     clear hw9 hw_
     refine hK_.out _ _ (u_ HSy w9 HT9.b) (fun hHeld => ?_)
     clear hK_ K_
     refine wpAnyH_done (by kernel_rfl) ?_ _
     clear hHeld HB0 HB1 HB2 HT2 HY2
     rotate_left
     obtain ⟨x1, TB, hc2, hTBe, hTn⟩ := blkN (u_ HB0) #[.int .i64 0, .int .i64 0, .bool false, .slice none 0 0, .slice none 0 0] 33
     have hb := allocB hc2
     have HB1 := h_ (HB0.trans (hb.mono HB0.size))
     have HT1 := h_ hTn
     go_simp
     clear hb hTn hc2 hTBe
     refine hK_.out _ _ (u_ HSy x1 (u_ HB1)) (fun hHeld => ?_)
     clear hK_ K_
     refine wpAnyH_ready (rs := [5, 11]) (by kernel_rfl) (by simp) ?_
     refine (AllReadyH.cons (o := { dst := some 46, op := .call { callee := .value (.func 60), args := #[.tmp 45], argTypes := #[9] }, type := 3, pos := "ref.go:249", after := #[{ on := 4, ground := .data }], guard := none }) rfl (fun K_ hK_ => ?_) (AllReadyH.cons (o := { dst := some 52, op := .convert 9 22 (.tmp 51), type := 22, pos := "ref.go:249", after := #[{ on := 10, ground := .data }], guard := none }) rfl (fun K_ hK_ => ?_) AllReadyH.nil))
     go_simp
     go_at_call 60
     refine (u_ Htag x1).mono ?_
     rintro e w_ ⟨rfl, hw_⟩
     have hws := hw_.symm
     subst hws
     go_simp
     refine hK_.out _ _ (u_ HSy x1 (u_ HB1)) (fun hHeld => ?_)
     clear hK_ K_
     refine wpAnyH_ready (rs := [11]) (by kernel_rfl) (by simp) ?_
     refine (AllReadyH.cons (o := { dst := some 52, op := .convert 9 22 (.tmp 51), type := 22, pos := "ref.go:249", after := #[{ on := 10, ground := .data }], guard := none }) rfl (fun K_ hK_ => ?_) AllReadyH.nil)
     obtain ⟨cp, x2, hcv, hby, hb, hsz⟩ := conv_bytes2 x1 tx
     obtain ⟨BB, hBB⟩ := exq x1.heap.size
     rw [hBB, u_ HNT] at hcv hby
     have HB2 := h_ (HB1.trans (hb.mono HB1.size))
     have HT2 := h_ (HT1.call hb)
     have HY2 : Hid (BytesAt x2 (.slice (some ⟨BB, 0, none⟩) NT cp) (bs tx) ∧ w6.heap.size ≤ BB ∧ BB < x2.heap.size) := ⟨hby, by have := HB1.size; omega, by omega⟩
     have HTB : Hid (TB ≠ BB) := by have h1 := HT1.lt; show _ ≠ _; omega
     go_simp
     clear hb hby hBB hsz hcv
     refine hK_.out _ _ (u_ HSy x2 (u_ HB2)) (fun hHeld => ?_)
     clear hK_ K_
     refine wpAnyH_take (i := 12) (oi := { dst := some 53, op := .build 33 #[(1, .tmp 46), (3, .tmp 52)], type := 33, pos := "ref.go:249", after := #[{ on := 5, ground := .data }, { on := 11, ground := .data }], guard := none }) (v := ?_) rfl (by kernel_rfl) (by kernel_rfl) (by kernel_rfl) (fun _ _ _ h => h) (Or.inl ⟨by rfl, ?y15⟩) (by assumption) ?_
     case y15 => (intro w_ hSw; (try dsimp only at hSw); go_simp; try with_reducible rfl)
     simp only [Act.put, s1_, s2_, s3_]
     refine wpAnyH_ready (rs := [14]) (by kernel_rfl) (by simp) ?_
     refine (AllReadyH.cons (o := { dst := none, op := .store 33 (.tmp 9) (.tmp 53), type := 0, pos := "ref.go:249", after := #[{ on := 13, ground := .data }, { on := 12, ground := .data }, { on := 5, ground := .chain }, { on := 0, ground := .phase }, { on := 1, ground := .phase }, { on := 2, ground := .phase }, { on := 3, ground := .phase }, { on := 4, ground := .phase }, { on := 5, ground := .phase }, { on := 6, ground := .phase }, { on := 7, ground := .phase }, { on := 8, ground := .phase }, { on := 9, ground := .phase }, { on := 10, ground := .phase }, { on := 11, ground := .phase }, { on := 12, ground := .phase }, { on := 13, ground := .phase }], guard := none }) rfl (fun K_ hK_ => ?_) AllReadyH.nil)
     have hw_ : (#[.int .i64 0, .int .i64 (T : Int), .bool false, .slice (some ⟨BB, 0, none⟩) NT cp, .slice none 0 0] : Array Value).all (·.oneCell') = true := by simp [Value.oneCell']
     obtain ⟨w9, hw9⟩ := exq (x2.setRow TB #[.int .i64 0, .int .i64 (T : Int), .bool false, .slice (some ⟨BB, 0, none⟩) NT cp, .slice none 0 0])
     have HT9 : Hid (Blk w6 w9 TB #[.int .i64 0, .int .i64 (T : Int), .bool false, .slice (some ⟨BB, 0, none⟩) NT cp, .slice none 0 0] 33) := by show Blk _ _ _ _ _; rw [← hw9]; exact HT2.set _
     have HY9 : Hid (BytesAt w9 (.slice (some ⟨BB, 0, none⟩) NT cp) (bs tx) ∧ w6.heap.size ≤ BB) := ⟨by show BytesAt _ _ _; rw [← hw9]; exact bytes_setRow HY2.1 TB (u_ HTB) _, HY2.2.1⟩
     rw [if_pos (by rfl)]
     refine wp_store_row 33 _ _ rfl TB #[.int .i64 0, .int .i64 (T : Int), .bool false, .slice (some ⟨BB, 0, none⟩) NT cp, .slice none 0 0] rfl rfl 33 _ HT2.res value5r rfl hw_ ?_
     rw [hw9]
     clear hw9 hw_
     refine hK_.out _ _ (u_ HSy w9 HT9.b) (fun hHeld => ?_)
     clear hK_ K_
     refine wpAnyH_done (by kernel_rfl) ?_ _
     clear hHeld HB0 HB1 HB2 HT2 HY2
     rotate_left
     obtain ⟨cp, x2, hcv, hby, hb, hsz⟩ := conv_bytes2 x1 tx
     obtain ⟨BB, hBB⟩ := exq x1.heap.size
     rw [hBB, u_ HNT] at hcv hby
     have HB2 := h_ (HB1.trans (hb.mono HB1.size))
     have HT2 := h_ (HT1.call hb)
     have HY2 : Hid (BytesAt x2 (.slice (some ⟨BB, 0, none⟩) NT cp) (bs tx) ∧ w6.heap.size ≤ BB ∧ BB < x2.heap.size) := ⟨hby, by have := HB1.size; omega, by omega⟩
     have HTB : Hid (TB ≠ BB) := by have h1 := HT1.lt; show _ ≠ _; omega
     go_simp
     clear hb hby hBB hsz hcv
     refine hK_.out _ _ (u_ HSy x2 (u_ HB2)) (fun hHeld => ?_)
     clear hK_ K_
     refine wpAnyH_ready (rs := [5]) (by kernel_rfl) (by simp) ?_
     refine (AllReadyH.cons (o := { dst := some 46, op := .call { callee := .value (.func 60), args := #[.tmp 45], argTypes := #[9] }, type := 3, pos := "ref.go:249", after := #[{ on := 4, ground := .data }], guard := none }) rfl (fun K_ hK_ => ?_) AllReadyH.nil)
     go_simp
     go_at_call 60
     refine (u_ Htag x2).mono ?_
     rintro e w_ ⟨rfl, hw_⟩
     have hws := hw_.symm
     subst hws
     go_simp
     refine hK_.out _ _ (u_ HSy x2 (u_ HB2)) (fun hHeld => ?_)
     clear hK_ K_
     refine wpAnyH_take (i := 12) (oi := { dst := some 53, op := .build 33 #[(1, .tmp 46), (3, .tmp 52)], type := 33, pos := "ref.go:249", after := #[{ on := 5, ground := .data }, { on := 11, ground := .data }], guard := none }) (v := ?_) rfl (by kernel_rfl) (by kernel_rfl) (by kernel_rfl) (fun _ _ _ h => h) (Or.inl ⟨by rfl, ?y16⟩) (by assumption) ?_
     case y16 => (intro w_ hSw; (try dsimp only at hSw); go_simp; try with_reducible rfl)
     simp only [Act.put, s1_, s2_, s3_]
     refine wpAnyH_ready (rs := [14]) (by kernel_rfl) (by simp) ?_
     refine (AllReadyH.cons (o := { dst := none, op := .store 33 (.tmp 9) (.tmp 53), type := 0, pos := "ref.go:249", after := #[{ on := 13, ground := .data }, { on := 12, ground := .data }, { on := 5, ground := .chain }, { on := 0, ground := .phase }, { on := 1, ground := .phase }, { on := 2, ground := .phase }, { on := 3, ground := .phase }, { on := 4, ground := .phase }, { on := 5, ground := .phase }, { on := 6, ground := .phase }, { on := 7, ground := .phase }, { on := 8, ground := .phase }, { on := 9, ground := .phase }, { on := 10, ground := .phase }, { on := 11, ground := .phase }, { on := 12, ground := .phase }, { on := 13, ground := .phase }], guard := none }) rfl (fun K_ hK_ => ?_) AllReadyH.nil)
     have hw_ : (#[.int .i64 0, .int .i64 (T : Int), .bool false, .slice (some ⟨BB, 0, none⟩) NT cp, .slice none 0 0] : Array Value).all (·.oneCell') = true := by simp [Value.oneCell']
     obtain ⟨w9, hw9⟩ := exq (x2.setRow TB #[.int .i64 0, .int .i64 (T : Int), .bool false, .slice (some ⟨BB, 0, none⟩) NT cp, .slice none 0 0])
     have HT9 : Hid (Blk w6 w9 TB #[.int .i64 0, .int .i64 (T : Int), .bool false, .slice (some ⟨BB, 0, none⟩) NT cp, .slice none 0 0] 33) := by show Blk _ _ _ _ _; rw [← hw9]; exact HT2.set _
     have HY9 : Hid (BytesAt w9 (.slice (some ⟨BB, 0, none⟩) NT cp) (bs tx) ∧ w6.heap.size ≤ BB) := ⟨by show BytesAt _ _ _; rw [← hw9]; exact bytes_setRow HY2.1 TB (u_ HTB) _, HY2.2.1⟩
     rw [if_pos (by rfl)]
     refine wp_store_row 33 _ _ rfl TB #[.int .i64 0, .int .i64 (T : Int), .bool false, .slice (some ⟨BB, 0, none⟩) NT cp, .slice none 0 0] rfl rfl 33 _ HT2.res value5r rfl hw_ ?_
     rw [hw9]
     clear hw9 hw_
     refine hK_.out _ _ (u_ HSy w9 HT9.b) (fun hHeld => ?_)
     clear hK_ K_
     refine wpAnyH_done (by kernel_rfl) ?_ _
     clear hHeld HB0 HB1 HB2 HT2 HY2
     rotate_left
    all_goals
     obtain ⟨y0, y1, y2, y3, y4⟩ := five_at (HY6.call HT9.b)
     obtain ⟨t0, t1, t2, t3, t4⟩ := five_at (u_ HT9)
     obtain ⟨w10, KB, hw10, eKB, hK⟩ := blkN HT9.b #[.int .i64 vc, .int .i64 vt, .bool vm, .slice p1 vl q1, .slice p2 vk q2, .int .i64 0, .int .i64 (T : Int), .bool false, .slice (some ⟨BB, 0, none⟩) NT cp, .slice none 0 0] 33
     obtain ⟨w11, PB, hw11, ePB, hP⟩ := blkN hK.b #[.int .i64 0, .int .i64 16, .bool true, .slice none 0 0, .slice (some ⟨KB, 0, none⟩) 2 2] 33
     have hL := Blk.new hP.b #[.int .i64 0, .int .i64 16, .bool true, .slice none 0 0, .slice (some ⟨KB, 0, none⟩) 2 2] 33
     have hK11 := hK.lit (.cells #[.int .i64 0, .int .i64 16, .bool true, .slice none 0 0, .slice (some ⟨KB, 0, none⟩) 2 2] 33)
     rw [hw11] at hK11
     have hM11 := HM6.below hP.b
     have o4 : w11.cell? ⟨O, 4, none⟩ = some (.slice sk i ck) := by rw [cell_of_row _ _ _ _ 33 (0, 0) hM11.out]; rfl
     obtain ⟨q0, q1_, q2_, q3_, q4_⟩ := five_at hP
     obtain ⟨w12, hw12⟩ := exq (w11.alloc (.cells #[.int .i64 0, .int .i64 16, .bool true, .slice none 0 0, .slice (some ⟨KB, 0, none⟩) 2 2] 33))
     obtain ⟨LB, eLB⟩ := exq w11.heap.size
     have hK12 := hK11.lit (.cells #[.int .i64 0, .int .i64 16, .bool true, .slice none 0 0, .slice (some ⟨KB, 0, none⟩) 2 2] 33)
     rw [hw12] at hK12
     rw [hw12, eLB] at hL
     obtain ⟨w13, hw13⟩ := exq (w12.alloc (.cells #[.int .i64 0, .int .i64 17, .bool true, .slice none 0 0, .slice (some ⟨LB, 0, none⟩) 1 1] 33))
     obtain ⟨MB, eMB⟩ := exq w12.heap.size
     have hM13 := Blk.new hL.b #[.int .i64 0, .int .i64 17, .bool true, .slice none 0 0, .slice (some ⟨LB, 0, none⟩) 1 1] 33
     have hK13 := hK12.lit (.cells #[.int .i64 0, .int .i64 17, .bool true, .slice none 0 0, .slice (some ⟨LB, 0, none⟩) 1 1] 33)
     have hL13 := hL.lit (.cells #[.int .i64 0, .int .i64 17, .bool true, .slice none 0 0, .slice (some ⟨LB, 0, none⟩) 1 1] 33)
     rw [hw13] at hK13 hL13
     rw [hw13, eMB] at hM13
     have HMd13 := h_ (HM6.below hM13.b)
     have hfree : ∀ x, w6.heap.size ≤ x → Free (fun b => w.heap.size ≤ b) O R (.slice sk i ck) x := fun x hx => by
      have h1 := HM6.lt
      have h2 := HM6.ro
      have h3 := HM6.b.size
      refine ⟨by omega, by omega, by omega, fun e => ?_⟩
      have := (OwnD.block HM6.own x e).2
      omega
     have hfreeY : ∀ x, wr.heap.size ≤ x → Free (fun b => w.heap.size ≤ b) O R (.slice sk i ck) x := fun x hx => by
      have h1 := HM.lt
      have h2 := HM.ro
      have h3 := HM.b.size
      refine ⟨by omega, by omega, by omega, fun e => ?_⟩
      have := (OwnD.block HM.own x e).2
      omega
     have HAt : Hid (VAt 3 (Free (fun b => w.heap.size ≤ b) O R (.slice sk i ck)) w13 [.int .i64 0, .int .i64 17, .bool true, .slice none 0 0, .slice (some ⟨LB, 0, none⟩) 1 1] (attrDV a)) := by
      refine qattr_made hK13 hL13 ((HV6.below hM13.b).mono fun x hx _ => hfreeY x hx) ?_ (u_ HTt) (hfree _ hK13.ge) (hfree _ hL13.ge)
      have hby := HY9.1.below (show Below w9.heap.size w9 w13 from by
       have h10 := allocB hw10
       have h11 := allocB hw11
       have h12 := allocB hw12
       have h13 := allocB hw13
       exact ((h10.trans (h11.mono h10.size)).trans (h12.mono (by have := h10.size; have := h11.size; omega))).trans (h13.mono (by have := h10.size; have := h11.size; have := h12.size; omega)))
      rw [u_ Htx] at hby
      have hle : a.2.length ≤ 9223372036854775807 := by rw [← u_ Htx, bs_len]; have := u_ Hsx; omega
      obtain ⟨m, hm⟩ := leaf_S (S := Free (fun b => w.heap.size ≤ b) O R (.slice sk i ck)) 0 (T : Int) hby (fun j hj => by simp only [Value.ownBlock, Option.some.injEq] at hj; subst hj; exact hfree _ HY9.2) hle
      exact hm.leaf rfl
     have H1c : Hid (∀ u ∈ ([.int .i64 0, .int .i64 17, .bool true, .slice none 0 0, .slice (some ⟨LB, 0, none⟩) 1 1] : List Value), u.oneCell' = true) := by intro u hu; simp only [List.mem_cons, List.not_mem_nil, or_false] at hu; rcases hu with rfl | rfl | rfl | rfl | rfl <;> rfl
     have Hsz13 : Hid (O + 1 ≤ w13.heap.size) := HMd13.lt
     have Hcel : Hid (CellsAt w13 MB 0 [.int .i64 0, .int .i64 17, .bool true, .slice none 0 0, .slice (some ⟨LB, 0, none⟩) 1 1]) := five_cells hM13 rfl (fun j h => by have h5 : j = 0 ∨ j = 1 ∨ j = 2 ∨ j = 3 ∨ j = 4 := (by omega); rcases h5 with rfl | rfl | rfl | rfl | rfl <;> rfl)
     have Hi : Hid (i ≤ 1073741824) := by show _ ≤ _; omega
     have Hat2 : Hid ((d.map attrDV)[i]? = some (attrDV a)) := by show _ = _; rw [List.getElem?_map, u_ Hda]; rfl
     clear hK hP hL hK11 hM11 hK12 hM13 hK13 hL13 hfree hfreeY
     go_wp2_with (at_builtin; refine wpList_append_five Erv rfl _ _ rfl (O + 1) (.slice sk i ck) i xs [.int .i64 0, .int .i64 17, .bool true, .slice none 0 0, .slice (some ⟨LB, 0, none⟩) 1 1] rfl HMd13.own MB 0 1 rfl rfl (u_ Hcel) (u_ H1c) (u_ Hsz13) (u_ Hi) ?_
                  intro v14 w14 hown hg hor
                  obtain ⟨s14, c14, rfl, _, _⟩ := hown.form
                  have HF := h_ (Made.add (u_ HMd13) (u_ Hat2) (u_ HAt) hown hg hor)
                  have ho14 : w14.heap[O]? = some (.cells #[.int .i64 0, .int .i64 16, .bool true, .slice none 0 0, .slice sk i ck] 33 (0, 0)) := by { rw [hg.block O HMd13.lt (fun e => by have := (OwnD.block HMd13.own O e.symm).1; omega)]; exact (u_ HMd13).out }
                  have o14 : w14.cell? ⟨O, 4, none⟩ = some (.slice sk i ck) := by { rw [cell_of_row _ _ _ _ 33 (0, 0) ho14]; rfl }
                  have of14 : w14.frozen? ⟨O, 4, none⟩ = false := frozen_of_row _ _ _ _ 33 ho14
                  clear hown hg hor ho14)
     go_roundw
     case rel =>
      first
       | exact ⟨i + 1, U2, c14, s14, _, by omega, by first | (rw [← show 31 = U2 from u_ HUe]; rfl) | (rw [← show U = U2 from u_ HUe]), by go_num, HO2, HU2, HF⟩
       | ((repeat apply Exists.intro); exact ⟨⟨i + 1, U2, c14, s14, _, by omega, by first | (rw [← show 31 = U2 from u_ HUe]; rfl) | (rw [← show U = U2 from u_ HUe]), by go_num, HO2, HU2, HF⟩, rfl⟩)
     case measure => simp [intOf]; omega
  ·obtain ⟨f1, f1n⟩ := ltVVf i n
   have hall : d.take i = d := List.take_of_length_le (by have := u_ Hn; omega)
   rw [hall] at HO HU
   rcases u_ HU with ⟨rfl, hT⟩ | ⟨rfl, hT⟩
   ·have HE : Hid (errOf (dnV d) = 0 ∧ valOf (dnV d) = .mk 0 16 true [] (d.map attrDV)) := by
     rw [dnV_yes (by have := u_ Hn; omega) (u_ HO) hT]
     exact ⟨rfl, rfl⟩
    have hie : i = (d.map attrDV).length := by rw [List.length_map]; have := u_ Hn; omega
    have HD := h_ (Made.done (bs := []) (by rw [hie] at HM; exact u_ HM) (bytes_nil w) (fun h => absurd rfl h) (fun b hb => hb) ⟨by simp, by rw [← hie]; omega⟩ #[.int .i64 0, .int .i64 16, .bool true, .slice none 0 0, .slice sk i ck])
    have HO9 := h_ (u_ HM).out
    have HR9 := h_ HM.blk
    have H6 : Hid ((#[.int .i64 0, .int .i64 16, .bool true, .slice none 0 0, .slice sk i ck] : Array Value).all (·.oneCell') = true) := by show _ = true; simp [Value.oneCell']
    have Hie := h_ hie
    clear hall hT hie HM HU HO
    go_upto_region 18 with fail
    go_wp2_with (first | (refine wpList_load_row rfl 33 _ rfl O rfl 33 _ (0, 0) _ (u_ HO9) Tryz.underlying33 rfl value5r ?_) | (refine wpList_store_row rfl 33 _ _ rfl R _ rfl rfl 33 _ HR9.res value5r rfl (u_ H6) ?_))
    refine bodyPost_ret (res_row_tmp Tryz.results25 _ _ R 33 #[.int .i64 0, .int .i64 16, .bool true, .slice none 0 0, .slice sk i ck] (0, 0) _ rfl (HR9.set #[.int .i64 0, .int .i64 16, .bool true, .slice none 0 0, .slice sk i ck]).res Tryz.underlying33 rfl value5r _ rfl) rfl ⟨[.int .i64 0, .int .i64 16, .bool true, .slice none 0 0, .slice sk i ck], by rw [HE.1]; rfl, ?_, (HR9.set #[.int .i64 0, .int .i64 16, .bool true, .slice none 0 0, .slice sk i ck]).b⟩
    rw [HE.2]
    have h := HD.1
    rw [← u_ Hie] at h
    exact ⟨_, h⟩
   ·have HE : Hid (errOf (dnV d) = 31 ∧ valOf (dnV d) = .mk 0 0 false [] []) := by
     rw [dnV_text2 (by have := u_ Hn; omega) (u_ HO) hT]
     exact ⟨rfl, rfl⟩
    have HRz := h_ HM.blk
    clear hall hT HM HU HO
    go_upto_region 17 with fail
    go_wp2_with (refine wpList_store_row rfl 33 _ _ rfl R _ rfl rfl 33 _ HRz.res value5r rfl (u_ H5) ?_)
    exact bodyPost_ret (res_row_tmp Tryz.results25 _ _ R 33 #[.int .i64 0, .int .i64 0, .bool false, .slice none 0 0, .slice none 0 0] (0, 0) _ rfl (HRz.set #[.int .i64 0, .int .i64 0, .bool false, .slice none 0 0, .slice none 0 0]).res Tryz.underlying33 rfl value5r _ rfl) rfl ⟨_, by rw [HE.1]; rfl, by rw [HE.2]; exact zero_val _ _, (HRz.set #[.int .i64 0, .int .i64 0, .bool false, .slice none 0 0, .slice none 0 0]).b⟩
end Q
end Go.Proofs.YtcofnockikninaaGreatDoor
