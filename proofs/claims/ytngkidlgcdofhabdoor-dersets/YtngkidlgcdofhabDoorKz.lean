/-
  The walk of the landed fill.
-/
import Derived.Test.YtngkidlgcdofhabDoorKy
namespace Go.Proofs.YtngkidlgcdofhabDoor
open Go.RowKit
namespace K
/-- What is told, by what the plain words say. -/
def FTold (f : Nat) (P : Told DV) (w' : World) (B : Nat) (cs : List Value) (er : Nat) : Prop := match P with
  | .no e => er = e ∧ cs = zeroL
  | .yes v => er = 0 ∧ VAt (f + 1) (fun k => B ≤ k) w' cs v
/-- A plain value that has just been made. -/
theorem leaf_at {w' : World} {B f c t : Nat} {b : Bs} {x : Value} (hx : OwnB w' B x b) (hl : b.length ≤ 1000000) : VAt (f + 1) (fun k => B ≤ k) w' (dcells (c : Int) (t : Int) false x (.slice none 0 0)) (.mk (c : Int) (t : Int) false b []) :=
  ⟨x, none, 0, rfl, hx.bytes, fun _ k hk => by
    have hh := hx
    unfold OwnB OwnV at hh
    rcases hh.2 with ⟨h1, _⟩ | ⟨g, cap, cur, h1, hb, _⟩
    · rw [h1] at hk; cases hk
    · rw [h1] at hk
      simp only [Value.ownBlock, Option.some.injEq] at hk
      omega, ⟨by simp only [DV.bytes]; omega, by simp [DV.kids]⟩, by simp [DV.kids], fun _ => rfl, fun h => absurd rfl h⟩
theorem grown5 (w : World) (R : Nat) (a b c d e : Value) : w.grownBy (((((w.setCell ⟨R, 0, none⟩ a).setCell ⟨R, 1, none⟩ b).setCell ⟨R, 2, none⟩ c).setCell ⟨R, 3, none⟩ d).setCell ⟨R, 4, none⟩ e) (some R) :=
  grown_setCell (grown_setCell (grown_setCell (grown_setCell (grown_setCell (World.grownBy.refl _ (some R)) ⟨R, 0, none⟩ a rfl) ⟨R, 1, none⟩ b rfl) ⟨R, 2, none⟩ c rfl) ⟨R, 3, none⟩ d rfl) ⟨R, 4, none⟩ e rfl
theorem own_kept {a b : World} {B R : Nat} {x : Value} {l : Bs} (h : OwnB a B x l) (hg : a.grownBy b (some R)) (hR : R < B) : OwnB b B x l := by
  unfold OwnB at h ⊢
  refine OwnV.kept h hg ?_
  cases hq : x.ownBlock with
  | none => exact Or.inl rfl
  | some g =>
    refine Or.inr fun e => ?_
    have hh := h
    unfold OwnV at hh
    rcases hh.2 with ⟨h2, _⟩ | ⟨g', cap, cur, h2, hb, _⟩
    · rw [h2] at hq; cases hq
    · rw [h2] at hq
      simp only [Value.ownBlock, Option.some.injEq] at hq
      simp only [Option.some.injEq] at e
      omega
def lenV : Value → Nat
  | .slice _ n _ => n
  | _ => 0
theorem prep_done {g : Bs → Told (DV × Bs)} {m : Nat} (d : List (DV × Bs)) : prepK d (kidsP g m []) = .yes d := by
  rw [kids_end]
  unfold prepK
  simp
set_option maxRecDepth 100000 in
set_option maxHeartbeats 16000000 in
theorem fill_step (f : Nat) (hrd : ReadC f) : FillC f := fun w c t m y b D hT hy hl hD => by
  obtain ⟨ys, yc, rfl, _, _, _⟩ := bytes_open hy
  obtain ⟨N, hN⟩ : ∃ N, b.length = N := ⟨_, rfl⟩
  rw [hN] at hy hl ⊢
  have HY := hide hy
  have HT := hide hT
  have HN := hide hN
  have HRd := hide hrd
  have HU : Hid (fillP f c t m b = if okT c t m = false then .no 21 else
    if m = false then (if rightC c t b = false then .no 24 else .yes (.mk c t false b [])) else
    match kidsP (valueP formD f) b.length b with
    | .no e => .no e
    | .yes ks => if (fallsP (ks.map (·.2)) && decide (c = 0 ∧ t = 17)) = true then .no 25 else .yes (.mk c t true [] (ks.map (·.1)))) := by show _ = _; unfold fillP; rfl
  obtain ⟨P, hP⟩ : ∃ P, fillP f c t m b = P := ⟨_, rfl⟩
  have HTo : Hid (∀ w' B cs er, FTold f P w' B cs er → FillTold f c t m w' B b cs er) := fun w' B cs er h => by unfold FillTold; unfold FTold at h; rw [hP]; exact h
  rw [hP] at HU
  -- the blocks
  have hO := Blk.new (Below.refl w.heap.size w) #[.int .i64 (c : Int), .int .i64 (t : Int), .bool m, .slice none 0 0, .slice none 0 0] 26
  obtain ⟨w1, hw1⟩ : ∃ w1, w.alloc (.cells #[.int .i64 (c : Int), .int .i64 (t : Int), .bool m, .slice none 0 0, .slice none 0 0] 26) = w1 := ⟨_, rfl⟩
  rw [hw1] at hO
  have hR := Blk.new hO.b zeroL.toArray 26
  have hO2 := hO.lit (.cells zeroL.toArray 26)
  have hOR : w.heap.size ≠ w1.heap.size := by have := hO.lt; omega
  obtain ⟨w2, hw2⟩ : ∃ w2, w1.alloc (.cells zeroL.toArray 26) = w2 := ⟨_, rfl⟩
  rw [hw2] at hR hO2
  obtain ⟨O, eO⟩ : ∃ O, w.heap.size = O := ⟨_, rfl⟩
  obtain ⟨R, eR⟩ : ∃ R, w1.heap.size = R := ⟨_, rfl⟩
  rw [eO] at hO2
  rw [eR] at hR
  rw [eO, eR] at hOR
  have k0 := hO2.cell 0 _ rfl
  have k1 := hO2.cell 1 _ rfl
  have k2 := hO2.cell 2 _ rfl
  have k3 := hO2.cell 3 _ rfl
  have k4 := hO2.cell 4 _ rfl
  have HO2 := hide hO2
  have HR2 := hide hR
  have Hru := hide (rule_c c t m none none 0 0 0 0 w2)
  have hw2z : w1.alloc (.cells #[.int .i64 0, .int .i64 0, .bool false, .slice none 0 0, .slice none 0 0] 26) = w2 := hw2
  have Hws := hide eO
  clear hO hR hO2 hy hT hN hrd hP hw2
  go_enter Tryd.func25, Tryd.ntmps25
  go_wp2_with fail
  refine (unhide Hru).mono ?_
  rintro e w3 ⟨mm, fb, fk, rfl, hfb, hfk, htold, hb3⟩
  have hO3 := (unhide HO2).call hb3
  have hR3 := (unhide HR2).call hb3
  have hQ := Blk.new hO3.b #[.bool false, .nilFunc, .nilFunc] 52
  have hO4 := hO3.lit (.cells #[.bool false, .nilFunc, .nilFunc] 52)
  have hR4 := hR3.lit (.cells #[.bool false, .nilFunc, .nilFunc] 52)
  obtain ⟨w4, hw4⟩ : ∃ w4, w3.alloc (.cells #[.bool false, .nilFunc, .nilFunc] 52) = w4 := ⟨_, rfl⟩
  have hOQ : O < w3.heap.size := hO3.lt
  have hRQ : R < w3.heap.size := hR3.lt
  rw [hw4] at hQ hO4 hR4
  obtain ⟨Q, eQ⟩ : ∃ Q, w3.heap.size = Q := ⟨_, rfl⟩
  rw [eQ] at hQ hOQ hRQ
  have ofn : ∀ {v : Value}, FnV v → v.oneCell' = true := fun h => by rcases h with rfl | ⟨f, rfl⟩ <;> rfl
  have HOne := hide (one3 (.bool mm) fb fk rfl (ofn hfb) (ofn hfk))
  have HQ := hide hQ
  have HQ5 := hide (hQ.set #[.bool mm, fb, fk])
  have HO5 := hide (hO4.other hQ.ge (by omega) #[.bool mm, fb, fk])
  have HR5 := hide (hR4.other hQ.ge (by omega) #[.bool mm, fb, fk])
  have HTold := hide htold
  have Hlt : Hid (O < Q ∧ R < Q ∧ O ≠ R) := ⟨hOQ, hRQ, hOR⟩
  clear hO3 hR3 hQ hO4 hR4 hb3 htold hfb hfk Hru ofn k0 k1 k2 k3 k4 HO2 HR2 hOQ hRQ hOR
  obtain ⟨ok, hok⟩ : ∃ ok, okT c t m = ok := ⟨_, rfl⟩
  rw [hok] at HU ⊢
  have Hok := hide hok
  clear hok
  go_upto_region 2 with (refine wpList_store_row rfl 52 _ _ rfl Q #[.bool mm, fb, fk] rfl rfl 52 _ (unhide HQ).res rule3 rfl (unhide HOne) ?_)
  obtain ⟨w5, hw5⟩ : ∃ w5, w4.setRow Q #[.bool mm, fb, fk] = w5 := ⟨_, rfl⟩
  rw [hw5] at HQ5 HO5 HR5 ⊢
  clear hw5 hw4 HQ HOne hw1 hw2z
  have r0 := (unhide HR5).cell 0 _ rfl
  have r1 := (unhide HR5).cell 1 _ rfl
  have r2 := (unhide HR5).cell 2 _ rfl
  have r3 := (unhide HR5).cell 3 _ rfl
  have r4 := (unhide HR5).cell 4 _ rfl
  have g0 := (unhide HR5).frozen 0
  have g1 := (unhide HR5).frozen 1
  have g2 := (unhide HR5).frozen 2
  have g3 := (unhide HR5).frozen 3
  have g4 := (unhide HR5).frozen 4
  have k0 := (unhide HO5).cell 0 _ rfl
  have k1 := (unhide HO5).cell 1 _ rfl
  have k2 := (unhide HO5).cell 2 _ rfl
  have k3 := (unhide HO5).cell 3 _ rfl
  have k4 := (unhide HO5).cell 4 _ rfl
  have f3 := (unhide HO5).frozen 3
  have q1 := (unhide HQ5).cell 1 _ rfl
  have q2 := (unhide HQ5).cell 2 _ rfl
  cases ok with
  | false =>
    have HE : Hid (P = .no 21) := by show _ = _; rw [unhide HU]; rfl
    clear HU HTold
    go_wp2
    have h1 := (unhide HR5).put5 (.int .i64 0) (.int .i64 0) (.bool false) (.slice none 0 0) (.slice none 0 0)
    exact bodyPost_ret (res_row_tmp Tryd.results25 _ _ R 26 zeroL.toArray (0, 0) _ rfl h1.res Tryd.underlying26 rfl value5 (.int .i64 21) rfl) rfl ⟨zeroL, 21, rfl, unhide HTo _ _ _ _ (by rw [unhide HE]; exact ⟨rfl, rfl⟩), by first | exact h1.b | (rw [← unhide Hws]; exact h1.b)⟩
  | true =>
    cases m with
    | false =>
      obtain ⟨fn, hfn, hen0, hbf⟩ := (unhide HTold (unhide Hok)).1 rfl
      subst hfn
      have hen : ∀ args W, (callFunc fn args).run Tryd.prog W = .ok (.enter fn args) W := hen0
      clear hen0
      have HU2 : Hid (P = if rightC c t b = false then .no 24 else .yes (.mk c t false b [])) := by show _ = _; rw [unhide HU]; simp
      have Hcl := hide (hbf w5 (.slice ys N yc) b ((unhide HT).below (unhide HO5).b) ((unhide HY).below (unhide HO5).b) (by rw [unhide HN]; omega))
      obtain ⟨u, hu⟩ : ∃ u, rightC c t b = u := ⟨_, rfl⟩
      rw [hu] at Hcl HU2
      clear hbf hu HU HTold
      go_wp2_with fail
      refine (unhide Hcl).mono ?_
      rintro e w6 ⟨rfl, hb6⟩
      have HO6 := hide ((unhide HO5).call hb6)
      have HR6 := hide ((unhide HR5).call hb6)
      clear hb6 Hcl r0 r1 r2 r3 r4 g0 g1 g2 g3 g4 k0 k1 k2 k3 k4 f3 q1 q2 HO5 HR5 HQ5 hen
      have r0 := (unhide HR6).cell 0 _ rfl
      have r1 := (unhide HR6).cell 1 _ rfl
      have r2 := (unhide HR6).cell 2 _ rfl
      have r3 := (unhide HR6).cell 3 _ rfl
      have r4 := (unhide HR6).cell 4 _ rfl
      have g0 := (unhide HR6).frozen 0
      have g1 := (unhide HR6).frozen 1
      have g2 := (unhide HR6).frozen 2
      have g3 := (unhide HR6).frozen 3
      have g4 := (unhide HR6).frozen 4
      cases u with
      | false =>
        have HE : Hid (P = .no 24) := by show _ = _; rw [unhide HU2]; rfl
        go_wp2
        have h1 := (unhide HR6).put5 (.int .i64 0) (.int .i64 0) (.bool false) (.slice none 0 0) (.slice none 0 0)
        exact bodyPost_ret (res_row_tmp Tryd.results25 _ _ R 26 zeroL.toArray (0, 0) _ rfl h1.res Tryd.underlying26 rfl value5 (.int .i64 24) rfl) rfl ⟨zeroL, 24, rfl, unhide HTo _ _ _ _ (by rw [unhide HE]; exact ⟨rfl, rfl⟩), by first | exact h1.b | (rw [← unhide Hws]; exact h1.b)⟩
      | true =>
        have HE : Hid (P = .yes (.mk c t false b [])) := by show _ = _; rw [unhide HU2]; rfl
        have HRw : Hid (Row w6 w6 (.slice none 0 0) []) := ⟨ownb_nil _ _, Below.refl _ _⟩
        have HY6 : Hid (BytesAt w6 (.slice ys N yc) b) := (unhide HY).below (unhide HO6).b
        have Hll : Hid (([] : Bs).length + b.length ≤ 1073741824) := by show _ ≤ _; rw [unhide HN]; simp; omega
        clear r0 r1 r2 r3 r4 g0 g1 g2 g3 g4 HU2
        go_upto_region 8 with (at_builtin; refine wpList_append_row rfl _ _ rfl (.slice none 0 0) (.slice ys N yc) [] b rfl (unhide HRw) rfl (unhide HY6) (unhide Hll) ?_
                               intro v7 w7 hR7
                               rw [List.nil_append] at hR7
                               obtain ⟨s7, c7, ev7⟩ := hR7.own.form
                               rw [unhide HN] at ev7
                               subst ev7
                               have HR7 := hide hR7
                               have HO7 := hide ((unhide HO6).call hR7.b)
                               have HRR7 := hide ((unhide HR6).call hR7.b)
                               have k3 := (unhide HO7).cell 3 _ rfl
                               have f3 := (unhide HO7).frozen 3
                               clear hR7)
        have hO8 := Blk.put (cs := [.int .i64 (c : Int), .int .i64 (t : Int), .bool false, .slice none 0 0, .slice none 0 0]) (unhide HO7) 3 (by simp) (.slice s7 N c7)
        simp only [List.set_cons_succ, List.set_cons_zero] at hO8
        have hgs : w7.grownBy (w7.setCell ⟨O, 3, none⟩ (.slice s7 N c7)) (some O) := grown_setCell (World.grownBy.refl _ _) ⟨O, 3, none⟩ _ rfl
        have hlt := unhide Hlt
        have hR8 := blk_grown (unhide HRR7) hgs (fun e => by simp only [Option.some.injEq] at e; omega) hO8.b
        have hown8 : OwnB (w7.setCell ⟨O, 3, none⟩ (.slice s7 N c7)) w6.heap.size (.slice s7 N c7) b := own_kept (unhide HR7).own hgs (unhide HO6).lt
        obtain ⟨w8, hw8⟩ : ∃ w8, w7.setCell ⟨O, 3, none⟩ (.slice s7 N c7) = w8 := ⟨_, rfl⟩
        rw [hw8] at hO8 hR8 hown8 ⊢
        have k0 := hO8.cell 0 _ rfl
        have k1 := hO8.cell 1 _ rfl
        have k2 := hO8.cell 2 _ rfl
        have k3' := hO8.cell 3 _ rfl
        have k4 := hO8.cell 4 _ rfl
        have r0 := hR8.cell 0 _ rfl
        have r1 := hR8.cell 1 _ rfl
        have r2 := hR8.cell 2 _ rfl
        have r3 := hR8.cell 3 _ rfl
        have r4 := hR8.cell 4 _ rfl
        have g0 := hR8.frozen 0
        have g1 := hR8.frozen 1
        have g2 := hR8.frozen 2
        have g3 := hR8.frozen 3
        have g4 := hR8.frozen 4
        have HRR8 := hide hR8
        have HOwn8 := hide hown8
        have Hsz6 : Hid (w.heap.size ≤ w6.heap.size ∧ R < w6.heap.size) := ⟨(unhide HO6).b.size, (unhide HR6).lt⟩
        clear hO8 hR8 hown8 hgs hlt hw8 k3 f3 HO7 HRR7 HR7 HO6 HR6
        go_wp2
        have h1 := (unhide HRR8).put5 (.int .i64 (c : Int)) (.int .i64 (t : Int)) (.bool false) (.slice s7 N c7) (.slice none 0 0)
        refine bodyPost_ret (res_row_tmp Tryd.results25 _ _ R 26 (dcells (c : Int) (t : Int) false (.slice s7 N c7) (.slice none 0 0)).toArray (0, 0) _ rfl h1.res Tryd.underlying26 rfl value5 (.int .i64 0) rfl) rfl ⟨_, 0, rfl, unhide HTo _ _ _ _ ?_, by first | exact h1.b | (rw [← unhide Hws]; exact h1.b)⟩
        rw [unhide HE]
        refine ⟨rfl, leaf_at ?_ (by rw [unhide HN]; omega)⟩
        exact (own_kept (unhide HOwn8) (grown5 _ _ _ _ _ _ _) (unhide Hsz6).2).mono (by first | exact (unhide Hsz6).1 | (rw [← unhide Hws]; exact (unhide Hsz6).1))
    | true =>
      have hkr := (unhide HTold (unhide Hok)).2 rfl
      unfold KidsRule at hkr
      obtain ⟨g, hg⟩ : ∃ g, (if c = 0 ∧ t = 17 then 38 else 27) = g := ⟨_, rfl⟩
      rw [hg] at hkr
      subst hkr
      have Hg := hide hg
      have HU2 : Hid (P = match kidsP (valueP formD f) b.length b with
          | .no e => .no e
          | .yes ks => if (fallsP (ks.map (·.2)) && decide (c = 0 ∧ t = 17)) = true then .no 25 else .yes (.mk c t true [] (ks.map (·.1)))) := by show _ = _; rw [unhide HU]; simp
      clear HU HTold hg
      obtain ⟨D1, hD1⟩ : ∃ D1, D + 1 = D1 := ⟨_, rfl⟩
      have eD1 : (D : Int) + 1 = (D1 : Int) := by omega
      have uD1 : IntKind.i64.wrap (D1 : Int) = (D1 : Int) := IntWalk.i64_in _ (by omega)
      have HD1 : Hid (D1 + f = 17) := by show _ = _; omega
      have HK0 : Hid (KM f w w5 O R Q c t (.slice none 0 0) #[.bool mm, fb, .func (.func g) #[] #[]] [] []) := ⟨unhide HO5, unhide HR5, unhide HQ5, ownd_nil _ _ _, fun j k hk => by simp at hk, unhide Hlt⟩
      clear hD1 r0 r1 r2 r3 r4 g0 g1 g2 g3 g4 k0 k1 k3 k4 f3 q1 q2 HO5 HR5 HQ5
      go_wp2
      clear k2
      go_loopw [1] (fun bb wr => ∃ (sv : Option Addr) (M cv : Nat) (l : Bs) (MM : Nat) (dn : List (DV × Bs)) (sk : Option Addr) (ck Kn : Nat) (xs : List Value), bb = .slice sv M cv ∧ M ≤ N ∧ Kn ≤ 65536 ∧ Hid (l.length = M ∧ BytesAt w (.slice sv M cv) l ∧ l.length ≤ MM ∧ dn.length + l.length ≤ b.length ∧ dn.length = Kn ∧ kidsP (valueP formD f) b.length b = prepK dn (kidsP (valueP formD f) MM l)) ∧ Hid (KM f w wr O R Q c t (.slice sk Kn ck) #[.bool mm, fb, .func (.func g) #[] #[]] (dn.map (·.1)) xs)) (fun bb _ => lenV bb)
      case atStart => exact ⟨ys, N, yc, b, b.length, [], none, 0, 0, [], rfl, by omega, by omega, ⟨unhide HN, unhide HY, Nat.le_refl _, by simp, rfl, (prep_nil _).symm⟩, HK0⟩
      case round =>
        obtain ⟨sv, M, cv, l, MM, dn, sk, ck, Kn, xs, rfl, hM, hKn, HE, HK⟩ := hrel
        clear HK0
        by_cases hpos : 0 < M
        · have d1 : decide ((0 : Int) < (M : Int)) = true := by simp; omega
          have d1n : decide (0 < M) = true := by simp; omega
          have Hcall := hide (unhide HRd wr (.slice sv M cv) l D1 ((unhide HT).below (unhide HK).out.b) ((unhide HE).2.1.below (unhide HK).out.b) (by have := (unhide HE).1; omega) (unhide HD1))
          go_wp2_with fail
          refine (unhide Hcall).mono ?_
          rintro e w6 ⟨cs, rs, rn, rc, er, rfl, htold, hb6⟩
          obtain ⟨zc, zt, zm, z1, z2, y1, y2, y3, y4, ecs⟩ := read_form htold
          subst ecs
          have HTo6 := hide htold
          have HK6 := hide ((unhide HK).below hb6)
          clear htold hb6 Hcall
          go_upto_region 11 with fail
          have HK7 := hide ((unhide HK6).below ((Below.refl _ _).alloc (Nat.le_refl _) (.cells #[.int .i64 zc, .int .i64 zt, .bool zm, .slice z1 y1 y2, .slice z2 y3 y4] 26)))
          have HE7 := hide (Blk.new (unhide HK6).out.b #[.int .i64 zc, .int .i64 zt, .bool zm, .slice z1 y1 y2, .slice z2 y3 y4] 26)
          have HE7b : Hid (Below w6.heap.size w6 (w6.alloc (.cells #[.int .i64 zc, .int .i64 zt, .bool zm, .slice z1 y1 y2, .slice z2 y3 y4] 26))) := (Below.refl _ _).alloc (Nat.le_refl _) _
          obtain ⟨w7, hw7⟩ : ∃ w7, w6.alloc (.cells #[.int .i64 zc, .int .i64 zt, .bool zm, .slice z1 y1 y2, .slice z2 y3 y4] 26) = w7 := ⟨_, rfl⟩
          rw [hw7] at HK7 HE7 HE7b ⊢
          obtain ⟨E, eE⟩ : ∃ E, w6.heap.size = E := ⟨_, rfl⟩
          rw [eE] at HE7 ⊢
          clear hw7
          cases hval : valueP formD f l with
          | no e' =>
            have h1 := unhide HTo6
            unfold ReadTold at h1
            rw [hval] at h1
            obtain ⟨her, _⟩ := h1
            have hne := value_pos f l e' hval
            have HEr : Hid (P = .no er) := by
              show _ = _
              have hl0 : l ≠ [] := fun e => by have := (unhide HE).1; rw [e] at this; simp at this; omega
              rw [unhide HU2, (unhide HE).2.2.2.2.2, kids_no dn hl0 (unhide HE).2.2.1 hval, her]
            have e0 : ((er : Int) == 0) = false := by simp; omega
            have e0' : ((er : Int) != 0) = true := by simp; omega
            have r0 := (unhide HK7).res.cell 0 _ rfl
            have r1 := (unhide HK7).res.cell 1 _ rfl
            have r2 := (unhide HK7).res.cell 2 _ rfl
            have r3 := (unhide HK7).res.cell 3 _ rfl
            have r4 := (unhide HK7).res.cell 4 _ rfl
            have g0 := (unhide HK7).res.frozen 0
            have g1 := (unhide HK7).res.frozen 1
            have g2 := (unhide HK7).res.frozen 2
            have g3 := (unhide HK7).res.frozen 3
            have g4 := (unhide HK7).res.frozen 4
            clear hval her hne HU2 HTo6
            go_wp2
            have h1 := (unhide HK7).res.put5 (.int .i64 0) (.int .i64 0) (.bool false) (.slice none 0 0) (.slice none 0 0)
            exact bodyPost_ret (res_row_tmp Tryd.results25 _ _ R 26 zeroL.toArray (0, 0) _ rfl h1.res Tryd.underlying26 rfl value5 (.int .i64 (er : Int)) rfl) rfl ⟨zeroL, er, rfl, unhide HTo _ _ _ _ (by rw [unhide HEr]; exact ⟨rfl, rfl⟩), by first | exact h1.b | (rw [← unhide Hws]; exact h1.b)⟩
          | yes vr =>
            obtain ⟨v, r⟩ := vr
            have h1 := unhide HTo6
            unfold ReadTold at h1
            rw [hval] at h1
            obtain ⟨her, hv6, sp, cp, erest, hrest⟩ := h1
            simp only [Value.slice.injEq] at erest
            obtain ⟨e1, hrn, e3⟩ := erest
            subst e1 e3
            have hless := value_less hval
            have hl0 : l ≠ [] := fun e => by have := (unhide HE).1; rw [e] at this; simp at this; omega
            obtain ⟨hlM, hBl, hMM, hdl, hdK, hkk⟩ := unhide HE
            have HE2 : Hid (r.length = rn ∧ BytesAt w (.slice rs rn rc) r ∧ r.length ≤ MM - 1 ∧ (dn ++ [(v, l.take (l.length - r.length))]).length + r.length ≤ b.length ∧ (dn ++ [(v, l.take (l.length - r.length))]).length = Kn + 1 ∧ kidsP (valueP formD f) b.length b = prepK (dn ++ [(v, l.take (l.length - r.length))]) (kidsP (valueP formD f) (MM - 1) r)) := by
              refine ⟨hrn.symm, hrest w hBl, by omega, ?_, ?_, ?_⟩
              · rw [List.length_append, List.length_singleton]; omega
              · rw [List.length_append, List.length_singleton, hdK]
              · rw [hkk, kids_yes dn hl0 hMM hval]
            have hrnb : rn < M ∧ rn ≤ N ∧ Kn + 1 ≤ 65536 := by
              have h2 := unhide HN
              refine ⟨by omega, by omega, by omega⟩
            have e0 : ((er : Int) == 0) = true := by simp; omega
            have e0' : ((er : Int) != 0) = false := by simp; omega
            have hKq := (unhide HK).rul.lt
            have hKo := fun g hx => (OwnD.block (unhide HK).own g hx).2
            have hKl : (dn.map (·.1)).length = Kn := by rw [List.length_map]; exact hdK
            have HV8 : Hid (VAt f (Fr Q (.slice sk Kn ck)) (w7.alloc (.cells #[.int .i64 zc, .int .i64 zt, .bool zm, .slice z1 y1 y2, .slice z2 y3 y4] 26)) [.int .i64 zc, .int .i64 zt, .bool zm, .slice z1 y1 y2, .slice z2 y3 y4] v) :=
              ((hv6.mono (S' := Fr Q (.slice sk Kn ck)) (fun b' hb' _ => ⟨by omega, fun e => by have := hKo b' e; omega⟩)).below (unhide HE7b)).below ((Below.refl _ _).alloc (Nat.le_refl _) _)
            have HK8 := hide ((unhide HK7).below ((Below.refl _ _).alloc (Nat.le_refl _) (.cells #[.int .i64 zc, .int .i64 zt, .bool zm, .slice z1 y1 y2, .slice z2 y3 y4] 26)))
            have y0' := (unhide HE7).cell 0 _ rfl
            have y1' := (unhide HE7).cell 1 _ rfl
            have y2' := (unhide HE7).cell 2 _ rfl
            have y3' := (unhide HE7).cell 3 _ rfl
            have y4' := (unhide HE7).cell 4 _ rfl
            have o4 := (unhide HK7).out.cell 4 _ rfl
            have H1c : Hid (∀ u ∈ ([.int .i64 zc, .int .i64 zt, .bool zm, .slice z1 y1 y2, .slice z2 y3 y4] : List Value), u.oneCell' = true) := by
              intro u hu
              simp only [List.mem_cons, List.not_mem_nil, or_false] at hu
              rcases hu with rfl | rfl | rfl | rfl | rfl <;> rfl
            have Hsz8 : Hid (Q + 1 ≤ (w7.alloc (.cells #[.int .i64 zc, .int .i64 zt, .bool zm, .slice z1 y1 y2, .slice z2 y3 y4] 26)).heap.size) := (unhide HK8).rul.lt
            have HKl := hide hKl
            have Hkb : Hid ((dn.map (·.1)).length ≤ 1073741824) := by show _ ≤ _; rw [hKl]; omega
            have Hlt4 : Hid (∀ g', (Value.slice sk Kn ck).ownBlock = some g' → Q + 1 ≤ g') := fun g' hx => (OwnD.block (unhide HK).own g' hx).1
            clear hval her hv6 hrest hless hl0 hlM hBl hMM hdl hdK hkk hKq hKo hKl hrn HE HTo6 HE7 HE7b HK HK6
            go_upto_region 14 with (at_builtin; refine wpList_append_five Edv rfl _ _ rfl (Q + 1) (.slice sk Kn ck) (dn.map (·.1)).length xs [.int .i64 zc, .int .i64 zt, .bool zm, .slice z1 y1 y2, .slice z2 y3 y4] rfl (unhide HK8).own w7.heap.size 0 1 rfl rfl (cells_new w7 _ 26) (unhide H1c) (unhide Hsz8) (unhide Hkb) ?_
                                    intro v9 w9 hown9 hg9 hor9
                                    obtain ⟨s9, c9, ev9, _, _⟩ := hown9.form
                                    rw [unhide HKl] at ev9
                                    subst ev9
                                    have hB9 : Below w.heap.size w w9 := grown_below' (unhide HK8).out.b hg9 (unhide HK8).out.b.size (fun g' hx => by have := unhide Hlt4 g' hx; have := (unhide HK8).rul.ge; omega)
                                    have hO9 := blk_grown (unhide HK8).out hg9 (fun e => by have := unhide Hlt4 O e.symm; have := (unhide HK8).oq.1; omega) hB9
                                    have o9 := hO9.cell 4 _ rfl
                                    have of9 := hO9.frozen 4
                                    have HOw9 := hide hown9
                                    have HG9 := hide hg9
                                    have HOr9 := hide hor9
                                    clear hown9 hg9 hor9 hB9 hO9)
            have HK9 := hide ((unhide HK8).add (unhide HV8) (unhide HOw9) (unhide HG9) (unhide HOr9))
            have HK10 : Hid (KM f w (w9.setCell ⟨O, 4, none⟩ (.slice s9 (Kn + 1) c9)) O R Q c t (.slice s9 (Kn + 1) c9) #[.bool mm, fb, .func (.func g) #[] #[]] ((dn ++ [(v, l.take (l.length - r.length))]).map (·.1)) (xs ++ [.int .i64 zc, .int .i64 zt, .bool zm, .slice z1 y1 y2, .slice z2 y3 y4])) := by
              rw [List.map_append]
              exact unhide HK9
            clear HK9 HK8 HV8 HOw9 HG9 HOr9 o9 of9 o4 y0' y1' y2' y3' y4' HK7 H1c Hsz8 Hkb Hlt4 HKl
            go_wp2
            go_roundw
            case rel =>
              first
                | exact ⟨rs, rn, rc, r, MM - 1, _, s9, c9, Kn + 1, _, rfl, hrnb.2.1, hrnb.2.2, HE2, HK10⟩
                | exact ⟨⟨rs, rn, rc, r, MM - 1, _, s9, c9, Kn + 1, _, rfl, hrnb.2.1, hrnb.2.2, HE2, HK10⟩, rfl⟩
            case measure => exact hrnb.1
        · have d1 : decide ((0 : Int) < (M : Int)) = false := by simp; omega
          have d1n : decide (0 < M) = false := by simp; omega
          have hk : kidsP (valueP formD f) b.length b = .yes dn := by
            have h1 := (unhide HE).2.2.2.2.2
            have hnil : l = [] := List.eq_nil_of_length_eq_zero (by have := (unhide HE).1; omega)
            rw [hnil, prep_done] at h1
            exact h1
          obtain ⟨hall, hflat⟩ := kids_back formD f (fun l r v h => value_back formD f l r v h) _ _ _ hk
          have hwt : weights (dn.map (·.1)) ≤ 1000000 := by
            have h1 := weights_le formD f _ _ hall
            rw [← hflat, unhide HN] at h1
            omega
          have hKl : (dn.map (·.1)).length = Kn := by rw [List.length_map]; exact (unhide HE).2.2.2.2.1
          have HU3 : Hid (P = if (fallsP (dn.map (·.2)) && decide (c = 0 ∧ t = 17)) = true then .no 25 else .yes (.mk c t true [] (dn.map (·.1)))) := by show _ = _; rw [unhide HU2, hk]
          have Hall := hide hall
          have Hwt := hide hwt
          have HKl := hide hKl
          have o4 := (unhide HK).out.cell 4 _ rfl
          have q2 := (unhide HK).rul.cell 2 _ rfl
          clear hk hall hflat hwt hKl HU2 HE hpos
          -- the two rules
          have Hend : Hid (∀ (u : Bool), (P = if u = true then .yes (.mk c t true [] (dn.map (·.1))) else .no 25) → True) := fun _ _ => trivial
          by_cases h17 : c = 0 ∧ t = 17
          · have hgv : g = 38 := by rw [← unhide Hg, if_pos h17]
            have HU4 : Hid (P = if fallsP (dn.map (·.2)) = true then .no 25 else .yes (.mk c t true [] (dn.map (·.1)))) := by show _ = _; rw [unhide HU3, decide_eq_true h17, Bool.and_true]
            have Hfa := hide (fall_all f f _ _ wr _ _ (unhide HK).row (unhide Hwt) (unhide Hall))
            obtain ⟨u, hu⟩ : ∃ u, fallsP (dn.map (·.2)) = u := ⟨_, rfl⟩
            rw [hu] at Hfa HU4
            subst hgv
            clear HU3 h17 hu Hall Hend
            go_wp2_with fail
            refine (unhide Hfa).mono ?_
            rintro e w8 ⟨rfl, hb8⟩
            have HK8 := hide ((unhide HK).below hb8)
            clear hb8 Hfa o4 q2
            have o0 := (unhide HK8).out.cell 0 _ rfl
            have o1 := (unhide HK8).out.cell 1 _ rfl
            have o2 := (unhide HK8).out.cell 2 _ rfl
            have o3 := (unhide HK8).out.cell 3 _ rfl
            have o4 := (unhide HK8).out.cell 4 _ rfl
            have r0 := (unhide HK8).res.cell 0 _ rfl
            have r1 := (unhide HK8).res.cell 1 _ rfl
            have r2 := (unhide HK8).res.cell 2 _ rfl
            have r3 := (unhide HK8).res.cell 3 _ rfl
            have r4 := (unhide HK8).res.cell 4 _ rfl
            have g0 := (unhide HK8).res.frozen 0
            have g1 := (unhide HK8).res.frozen 1
            have g2 := (unhide HK8).res.frozen 2
            have g3 := (unhide HK8).res.frozen 3
            have g4 := (unhide HK8).res.frozen 4
            cases u with
            | true =>
              have HE2 : Hid (P = .no 25) := by show _ = _; rw [unhide HU4]; rfl
              go_wp2
              have h1 := (unhide HK8).res.put5 (.int .i64 0) (.int .i64 0) (.bool false) (.slice none 0 0) (.slice none 0 0)
              exact bodyPost_ret (res_row_tmp Tryd.results25 _ _ R 26 zeroL.toArray (0, 0) _ rfl h1.res Tryd.underlying26 rfl value5 (.int .i64 25) rfl) rfl ⟨zeroL, 25, rfl, unhide HTo _ _ _ _ (by rw [unhide HE2]; exact ⟨rfl, rfl⟩), by first | exact h1.b | (rw [← unhide Hws]; exact h1.b)⟩
            | false =>
              have HE2 : Hid (P = .yes (.mk c t true [] (dn.map (·.1)))) := by show _ = _; rw [unhide HU4]; rfl
              go_wp2
              have h1 := (unhide HK8).res.put5 (.int .i64 (c : Int)) (.int .i64 (t : Int)) (.bool true) (.slice none 0 0) (.slice sk Kn ck)
              obtain ⟨_, _, _, hvat⟩ := (unhide HK8).done (by rw [unhide HKl]; omega) (grown5 w8 R (.int .i64 (c : Int)) (.int .i64 (t : Int)) (.bool true) (.slice none 0 0) (.slice sk Kn ck))
              exact bodyPost_ret (res_row_tmp Tryd.results25 _ _ R 26 (dcells (c : Int) (t : Int) true (.slice none 0 0) (.slice sk Kn ck)).toArray (0, 0) _ rfl h1.res Tryd.underlying26 rfl value5 (.int .i64 0) rfl) rfl ⟨_, 0, rfl, unhide HTo _ _ _ _ (by rw [unhide HE2]; first | exact ⟨rfl, hvat⟩ | (rw [← unhide Hws]; exact ⟨rfl, hvat⟩)), by first | exact h1.b | (rw [← unhide Hws]; exact h1.b)⟩
          · have hgv : g = 27 := by rw [← unhide Hg, if_neg h17]
            have HE2 : Hid (P = .yes (.mk c t true [] (dn.map (·.1)))) := by show _ = _; rw [unhide HU3, decide_eq_false h17, Bool.and_false]; rfl
            have Hfa := hide (anyk_c wr (.slice sk Kn ck))
            subst hgv
            clear HU3 h17 Hall Hend
            go_wp2_with fail
            refine (unhide Hfa).mono ?_
            rintro e w8 ⟨rfl, hb8⟩
            have HK8 := hide ((unhide HK).below hb8)
            clear hb8 Hfa o4 q2
            have o0 := (unhide HK8).out.cell 0 _ rfl
            have o1 := (unhide HK8).out.cell 1 _ rfl
            have o2 := (unhide HK8).out.cell 2 _ rfl
            have o3 := (unhide HK8).out.cell 3 _ rfl
            have o4 := (unhide HK8).out.cell 4 _ rfl
            have r0 := (unhide HK8).res.cell 0 _ rfl
            have r1 := (unhide HK8).res.cell 1 _ rfl
            have r2 := (unhide HK8).res.cell 2 _ rfl
            have r3 := (unhide HK8).res.cell 3 _ rfl
            have r4 := (unhide HK8).res.cell 4 _ rfl
            have g0 := (unhide HK8).res.frozen 0
            have g1 := (unhide HK8).res.frozen 1
            have g2 := (unhide HK8).res.frozen 2
            have g3 := (unhide HK8).res.frozen 3
            have g4 := (unhide HK8).res.frozen 4
            go_wp2
            have h1 := (unhide HK8).res.put5 (.int .i64 (c : Int)) (.int .i64 (t : Int)) (.bool true) (.slice none 0 0) (.slice sk Kn ck)
            obtain ⟨_, _, _, hvat⟩ := (unhide HK8).done (by rw [unhide HKl]; omega) (grown5 w8 R (.int .i64 (c : Int)) (.int .i64 (t : Int)) (.bool true) (.slice none 0 0) (.slice sk Kn ck))
            exact bodyPost_ret (res_row_tmp Tryd.results25 _ _ R 26 (dcells (c : Int) (t : Int) true (.slice none 0 0) (.slice sk Kn ck)).toArray (0, 0) _ rfl h1.res Tryd.underlying26 rfl value5 (.int .i64 0) rfl) rfl ⟨_, 0, rfl, unhide HTo _ _ _ _ (by rw [unhide HE2]; first | exact ⟨rfl, hvat⟩ | (rw [← unhide Hws]; exact ⟨rfl, hvat⟩)), by first | exact h1.b | (rw [← unhide Hws]; exact h1.b)⟩
end K
end Go.Proofs.YtngkidlgcdofhabDoor
