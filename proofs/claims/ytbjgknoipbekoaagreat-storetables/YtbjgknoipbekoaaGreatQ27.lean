/-
  The walk of the reference's With.
-/
import Derived.Test.YtbjgknoipbekoaaGreatQ26
import Derived.BigQuiet
import Derived.Test.YtbjgknoipbekoaaGreatQ19
namespace Go.Proofs.YtbjgknoipbekoaaGreat
open Go.RowKit
theorem ins_cons (c : Ch) (put : Bool) (x : Bs × Bs) (xs : List (Bs × Bs)) : insP c put (x :: xs) = (if put = false ∧ lessB x.1 c.key = false then [(c.key, c.val)] else []) ++ ((if x.1 = c.key then [] else [x]) ++ insP c (put || !lessB x.1 c.key) xs) := rfl
theorem ins_nil (c : Ch) (put : Bool) : insP c put [] = if put = true then [] else [(c.key, c.val)] := rfl
theorem with_take1 (ps : List (Bs × Bs)) {l : List Ch} {i : Nat} {c : Ch} (h : l[i]? = some c) : insP c c.gone (withP ps (l.take i)) = withP ps (l.take (i + 1)) := by
  obtain ⟨hl, e⟩ := List.getElem?_eq_some_iff.1 h
  rw [← with_snoc, ← e, List.take_append_getElem hl]
theorem ins_few (c : Ch) : ∀ (put : Bool) (ps : List (Bs × Bs)), (insP c put ps).length + (if put = true then 1 else 0) ≤ ps.length + 1
  | put, [] => by rw [ins_nil]; cases put <;> simp
  | put, x :: ps => by
    have h1 := ins_few c (put || !lessB x.1 c.key) ps
    have h2 : (if x.1 = c.key then [] else [x]).length ≤ 1 := by split <;> simp
    rw [ins_cons, List.length_append, List.length_append, List.length_cons]
    cases put <;> cases hl : lessB x.1 c.key <;> rw [hl] at h1 <;> simp at h1 ⊢ <;> omega
theorem with_few : ∀ (l : List Ch) (ps : List (Bs × Bs)), (withP ps l).length ≤ ps.length + l.length
  | [], ps => Nat.le_refl _
  | c :: l, ps => by
    have h1 := with_few l (insP c c.gone ps)
    have h2 := ins_few c c.gone ps
    rw [with_cons, List.length_cons]
    omega
/-- Keys that are not too long. -/
def KeysL (ps : List (Bs × Bs)) : Prop := ∀ x ∈ ps, x.1.length ≤ 1099511627776
theorem ins_keys {c : Ch} {put : Bool} {ps : List (Bs × Bs)} (h : KeysL ps) (hc : c.key.length ≤ 1099511627776) : KeysL (insP c put ps) := fun x hx => by
  rcases ins_mem hx with h1 | ⟨h1, _⟩
  · rw [h1]; exact hc
  · exact h x h1
theorem with_keys : ∀ {l : List Ch} {ps : List (Bs × Bs)}, KeysL ps → (∀ c ∈ l, c.key.length ≤ 1099511627776) → KeysL (withP ps l)
  | [], _, h, _ => h
  | c :: l, _, h, hl => with_keys (l := l) (ins_keys h (hl c List.mem_cons_self)) fun d hd => hl d (List.mem_cons_of_mem _ hd)
theorem cells_new2 (w : World) (a b : Value) (t : TypeId) : (w.alloc (.cells #[a, b] t)).cell? ⟨w.heap.size, 0, none⟩ = some a ∧ (w.alloc (.cells #[a, b] t)).cell? ⟨w.heap.size, 0 + 1, none⟩ = some b := by
  have h := (MapKept.heap_alloc w (.cells #[a, b] t)).1
  refine ⟨?_, ?_⟩ <;> (unfold World.cell?; rw [h]; rfl)
theorem prsT_snoc (t : List PrT) (x : PrT) : prsT (t ++ [x]) = prsT t ++ [x.1] := by unfold prsT; simp
/-- A round: the rest behind what stands. -/
theorem ins_step {c : Ch} {put : Bool} {ps acc all : List (Bs × Bs)} {k : Nat} {x : Bs × Bs} (h : acc ++ insP c put (ps.drop k) = all) (hx : ps[k]? = some x) : acc ++ (if put = false ∧ lessB x.1 c.key = false then [(c.key, c.val)] else []) ++ (if x.1 = c.key then [] else [x]) ++ insP c (put || !lessB x.1 c.key) (ps.drop (k + 1)) = all := by
  obtain ⟨hl, e⟩ := List.getElem?_eq_some_iff.1 hx
  rw [List.drop_eq_getElem_cons hl, e, ins_cons] at h
  rw [← h]
  simp only [List.append_assoc]
theorem quiet_less {w : World} {x y : Value} {a b : Bs} (hx : BytesAt w x a) (hy : BytesAt w y b) (ha : a.length ≤ 1099511627776) (hb : b.length ≤ 1099511627776) (n : Nat) : Calls Tryz.prog 54 #[x, y] (w.drewN n) fun e w' => e = .returned (.bool (lessB a b)) ∧ ∃ q, w' = (w.drewN n).drewN q :=
  less_quiet (w.drewN n) x y a b (hx.below (below_drewNb (Below.refl _ _) n)) (hy.below (below_drewNb (Below.refl _ _) n)) ha hb
theorem quiet_same {w : World} {x y : Value} {a b : Bs} (hx : BytesAt w x a) (hy : BytesAt w y b) (ha : a.length ≤ 1099511627776) (n : Nat) : Calls Tryz.prog 19 #[x, y] (w.drewN n) fun e w' => e = .returned (.bool (decide (a = b))) ∧ ∃ q, w' = (w.drewN n).drewN q :=
  same_quiet (w.drewN n) x y a b (hx.below (below_drewNb (Below.refl _ _) n)) (hy.below (below_drewNb (Below.refl _ _) n)) ha
theorem snoc_eq {t : List PrT} {x : Bs × Bs} {k : Bs} {Z all : List (Bs × Bs)} (h : prsT t ++ (if x.1 = k then [] else [x]) ++ Z = all) (he : x.1 = k) : prsT t ++ Z = all := by
  rw [if_pos he, List.append_nil] at h
  exact h
theorem snoc_ne {t : List PrT} {x : PrT} {k : Bs} {Z all : List (Bs × Bs)} (h : prsT t ++ (if x.1.1 = k then [] else [x.1]) ++ Z = all) (he : ¬ x.1.1 = k) : prsT (t ++ [x]) ++ Z = all := by
  rw [if_neg he] at h
  rw [prsT_snoc]
  exact h
theorem snoc_len {α : Type} {t : List α} {m : Nat} (h : t.length = m) (x : α) : (t ++ [x]).length = m + 1 := by
  rw [List.length_append, h]
  rfl
set_option maxRecDepth 100000 in
set_option maxHeartbeats 8000000 in
theorem rwith_c {K : Set_} {w : World} {x y : Value} {ps : List (Bs × Bs)} {l : List Ch} (hx : PrsAt K w x ps) (hy : ChsAt K w y l) (hn : ps.length + l.length ≤ 1000000) (hps : KeysL ps) (hl : ∀ c ∈ l, c.key.length ≤ 1099511627776) :
    Calls Tryz.prog 25 #[x, y] w fun e w' => ∃ v, e = .returned v ∧ PrsAt (fun k => (K k ∨ w.heap.size ≤ k) ∧ k < w'.heap.size) w' v (withP ps l) ∧ Below w.heap.size w w' := by
  obtain ⟨sp, cp, rfl, _⟩ := hx.form
  obtain ⟨sl, cl, rfl, _⟩ := hy.form
  obtain ⟨N, hN⟩ : ∃ N, l.length = N := ⟨_, rfl⟩
  obtain ⟨NP, hNP⟩ : ∃ N, ps.length = N := ⟨_, rfl⟩
  rw [hN] at hy hn ⊢
  rw [hNP] at hx hn ⊢
  have HX := hide hx
  have HY := hide hy
  have HN := hide hN
  have HNP := hide hNP
  have HKe := hide hps
  have HLe := hide hl
  clear hx hy hN hNP hps hl
  go_enter Tryz.func25, Tryz.ntmps25
  go_wp2
  go_loopw [0, 5] (fun pv ii wr => ∃ (i n c : Nat) (s : Option Addr), i ≤ N ∧ n ≤ NP + i ∧ ii = .int .i64 (i : Int) ∧ pv = .slice s n c ∧ Hid ((withP ps (l.take i)).length = n) ∧ Hid (PrsAt (fun k => K k ∨ w.heap.size ≤ k) wr (.slice s n c) (withP ps (l.take i))) ∧ Hid (Below w.heap.size w wr)) (fun _ ii _ => N - (intOf ii).toNat)
  case atStart => exact ⟨0, NP, cp, sp, by omega, by omega, rfl, rfl, unhide HNP, (unhide HX).mono fun k _ h => Or.inl h, Below.refl _ _⟩
  case round =>
    clear HX
    obtain ⟨i, n, c, s, hi, hnb, rfl, rfl, HQn, HQ, HB⟩ := hrel
    by_cases hlt : i < N
    · obtain ⟨ch, g, o, s1, c1, s2, c2, hop, rfl, hKg, hgl, h3⟩ := ((unhide HY).below (unhide HB)).one (i := i) (by have := unhide HN; omega)
      have hkey := unhide HLe ch (List.mem_of_getElem? hop)
      have HKq : Hid (KeysL (withP ps (l.take i))) := with_keys (unhide HKe) fun d hd => unhide HLe d (List.mem_of_mem_take hd)
      have HT1 : Hid (insP ch ch.gone (withP ps (l.take i)) = withP ps (l.take (i + 1))) := with_take1 ps hop
      obtain ⟨P, hP⟩ : ∃ y, withP ps (l.take i) = y := ⟨_, rfl⟩
      rw [hP] at HQn HQ HKq HT1
      have HKg := hide hKg
      have H3 := hide h3
      obtain ⟨gb, hgb⟩ : ∃ y, ch.gone = y := ⟨_, rfl⟩
      have HGB : Hid (prsT [] ++ insP ch gb (P.drop 0) = insP ch ch.gone P) := by show _ = _; rw [hgb]; rfl
      have HKY := hide hkey
      obtain ⟨KN, hKN⟩ : ∃ y, ch.key.length = y := ⟨_, rfl⟩
      obtain ⟨VN, hVN⟩ : ∃ y, ch.val.length = y := ⟨_, rfl⟩
      have HCH : Hid (Ch3 K wr g (o + i * 3) ch (.slice s1 KN c1) (.slice s2 VN c2)) := by rw [hKN, hVN] at h3; exact h3
      have k0 := (unhide HCH).c0
      have k1 := (unhide HCH).c1
      have k2 := (unhide HCH).c2
      rw [hgb] at k2
      have f1 : decide ((i : Int) < (N : Int)) = true := by simp; omega
      have f1n : decide (i < N) = true := by simp; omega
      have j0 : (0 : Int) ≤ (i : Int) := by omega
      have j1 : (i : Int) < (N : Int) := by omega
      clear h3 H3 hop hkey hP hKg hgb hKN hVN
      go_wp2
      rename World => wo
      have HPo : Hid (PrsAt (fun k => (K k ∨ w.heap.size ≤ k) ∧ k < wo.heap.size) wo (.slice s n c) P) := (unhide HQ).mono fun k hk h => ⟨h, hk⟩
      have HCo : Hid (Ch3 (fun k => (K k ∨ w.heap.size ≤ k) ∧ k < wo.heap.size) wo g (o + i * 3) ch (.slice s1 KN c1) (.slice s2 VN c2)) := ⟨(unhide HCH).c0, (unhide HCH).c1, (unhide HCH).c2, (unhide HCH).key.mono' fun k hk h => ⟨Or.inl h, hk⟩, (unhide HCH).val.mono' fun k hk h => ⟨Or.inl h, hk⟩⟩
      have HGo : Hid ((K g ∨ w.heap.size ≤ g) ∧ g < wo.heap.size) := ⟨Or.inl (unhide HKg), hgl⟩
      obtain ⟨K2, hK2⟩ : ∃ y : Set_, (fun k => (K k ∨ w.heap.size ≤ k) ∧ k < wo.heap.size) = y := ⟨_, rfl⟩
      have HKb : Hid (∀ k, K2 k → k < wo.heap.size) := fun k hk => by rw [← hK2] at hk; exact hk.2
      have HKa : Hid (∀ k, K2 k → K k ∨ w.heap.size ≤ k) := fun k hk => by rw [← hK2] at hk; exact hk.1
      have HGk : Hid (K2 g) := by show K2 g; rw [← hK2]; exact unhide HGo
      rw [hK2] at HPo HCo
      clear hK2 HQ HCH HKg HGo k0 k1 k2
      go_loopw [6, 7, 8] (fun ov pb kk wr => ∃ (k m co : Nat) (so : Option Addr) (pt : Bool) (t : List PrT), k ≤ n ∧ m ≤ 2 * k ∧ kk = .int .i64 (k : Int) ∧ ov = .slice so m co ∧ pb = .bool pt ∧ Hid (t.length = m) ∧ Hid (PrRow K2 wo.heap.size wr (.slice so m co) t) ∧ Hid (prsT t ++ insP ch pt (P.drop k) = insP ch ch.gone P) ∧ Hid (Below wo.heap.size wo wr)) (fun _ _ kk _ => n - (intOf kk).toNat)
      case atStart => exact ⟨0, 0, 0, none, gb, [], by omega, by omega, rfl, rfl, rfl, rfl, prrow_nil _ _ _, unhide HGB, Below.refl _ _⟩
      case round =>
        obtain ⟨k, m, co, so, pt, t, hk, hm, rfl, rfl, rfl, HTn, HT, HI, HBo⟩ := hrel
        by_cases hlk : k < n
        · obtain ⟨pr, gp, op, q1, d1, q2, d2, hpr, hsp, hKp, hgp, h2⟩ := ((unhide HPo).below (unhide HBo)).one (i := k) (by have := unhide HQn; omega)
          subst hsp
          have HST := hide (ins_step (unhide HI) hpr)
          have hlp := unhide HKq pr (List.mem_of_getElem? hpr)
          have hC : Ch3 K2 wr g (o + i * 3) ch (.slice s1 KN c1) (.slice s2 VN c2) := (unhide HCo).aside (S := none_) (Aside.of_below (unhide HBo)) (fun _ h => h.elim) (unhide HGk)
          have Hle := hide (quiet_less (w := wr) (unhide (hide h2.key.at_)) hC.key.at_ hlp (unhide HKY))
          have p0 := h2.c0
          have p1 := h2.c1
          have k0 := hC.c0
          have k1 := hC.c1
          obtain ⟨KP, hKP⟩ : ∃ y, pr.1.length = y := ⟨_, rfl⟩
          obtain ⟨VP, hVP⟩ : ∃ y, pr.2.length = y := ⟨_, rfl⟩
          rw [hKP] at p0 Hle
          rw [hVP] at p1
          have H2 : Hid (Pr2 K2 wr gp (op + k * 2) pr (.slice q1 KP d1) (.slice q2 VP d2)) := by rw [hKP, hVP] at h2; exact h2
          have HC := hide hC
          have HGP : Hid (K2 gp) := hKp
          have f2 : decide ((k : Int) < (n : Int)) = true := by simp; omega
          have f2n : decide (k < n) = true := by simp; omega
          have l0 : (0 : Int) ≤ (k : Int) := by omega
          have l1 : (k : Int) < (n : Int) := by omega
          have HLP := hide hlp
          clear h2 hC hlp hpr hKP hVP hKp HI
          cases pt
          · cases hle : lessB pr.1 ch.key
            · rw [hle] at Hle HST
              have HS12 : Hid (prsT (t ++ [((ch.key, ch.val), Value.slice s1 KN c1, Value.slice s2 VN c2)]) ++ (if pr.1 = ch.key then [] else [pr]) ++ insP ch true (P.drop (k + 1)) = insP ch ch.gone P) := by
                have h := unhide HST
                rw [if_pos ⟨rfl, rfl⟩] at h
                rw [prsT_snoc]
                exact h
              clear hle HST
              go_wp2
              go_big_quiet (first | (go_at_call 54; refine Calls.quiet_of (unhide Hle _)) | fail)
              go_wp2
              obtain ⟨W, hW⟩ : ∃ y, wr.drewN nq = y := ⟨_, rfl⟩
              have hbW : Below wr.heap.size wr W := by rw [← hW]; exact below_drewNb (Below.refl _ _) nq
              rw [hW]
              have CW := hide ((unhide HC).aside (S := none_) (Aside.of_below hbW) (fun _ h => h.elim) (unhide HGk))
              have PW := hide ((unhide H2).aside (S := none_) (Aside.of_below hbW) (fun _ h => h.elim) (unhide HGP))
              have TW := hide ((unhide HT).call hbW)
              have BW := hide ((unhide HBo).trans (hbW.mono (unhide HBo).size))
              have k0 := (unhide CW).c0
              have k1 := (unhide CW).c1
              have Hsz1 : Hid (wo.heap.size ≤ (W.drew.alloc (.cells #[Value.slice s1 KN c1, Value.slice s2 VN c2] 78)).heap.size) := ((unhide BW).drew.alloc (unhide BW).size _).size
              have HE1 : Hid (ElS K2 (W.drew.alloc (.cells #[Value.slice s1 KN c1, Value.slice s2 VN c2] 78)) (.slice s1 KN c1) ch.key) := (unhide CW).key.aside (S := none_) (Aside.of_below ((Below.refl _ _).drew.alloc (Nat.le_refl _) _)) fun _ h => h.elim
              have HE2 : Hid (ElS K2 (W.drew.alloc (.cells #[Value.slice s1 KN c1, Value.slice s2 VN c2] 78)) (.slice s2 VN c2) ch.val) := (unhide CW).val.aside (S := none_) (Aside.of_below ((Below.refl _ _).drew.alloc (Nat.le_refl _) _)) fun _ h => h.elim
              have HBa : Hid (Below W.heap.size W (W.drew.alloc (.cells #[Value.slice s1 KN c1, Value.slice s2 VN c2] 78))) := (Below.refl _ _).drew.alloc (Nat.le_refl _) _
              clear hbW hW HT HBo HC H2 p0 p1 Hle
              go_region_law (first
                | (refine step_append_pair rfl _ _ rfl (.slice so m co) t (by simp [Act.eval]) ((unhide TW).call (unhide HBa)) W.heap.size 0 1 (by simp [Act.eval]) ((ch.key, ch.val), Value.slice s1 KN c1, Value.slice s2 VN c2) (cells_new2 _ _ _ _).1 (cells_new2 _ _ _ _).2 rfl rfl (unhide Hsz1) (by have := unhide HTn; omega) (unhide HKb) (unhide HE1) (unhide HE2) ?_
                   intro v5 W5 s5 c5 e5 hr5 hb5
                   rw [unhide HTn] at e5
                   subst e5
                   have HT5 := hide hr5
                   have HB5 := hide hb5
                   clear hr5 hb5))
              all_goals
                have hb5w := hide ((unhide BW).trans (((unhide HBa).mono (unhide BW).size).trans (unhide HB5)))
                have CW5 := hide ((((unhide CW).aside (S := none_) (Aside.of_below (unhide HBa)) (fun _ h => h.elim) (unhide HGk))).aside (S := fun k => wo.heap.size ≤ k) ⟨(unhide HB5).os, (unhide HB5).tape, (unhide HB5).output, (unhide HB5).size, fun k _ hn => (unhide HB5).block k (by omega)⟩ (fun k hk hKk => by have := unhide HKb k hKk; omega) (unhide HGk))
                have PW5 := hide ((((unhide PW).aside (S := none_) (Aside.of_below (unhide HBa)) (fun _ h => h.elim) (unhide HGP))).aside (S := fun k => wo.heap.size ≤ k) ⟨(unhide HB5).os, (unhide HB5).tape, (unhide HB5).output, (unhide HB5).size, fun k _ hn => (unhide HB5).block k (by omega)⟩ (fun k hk hKk => by have := unhide HKb k hKk; omega) (unhide HGP))
                have HTn2 : Hid ((t ++ [((ch.key, ch.val), Value.slice s1 KN c1, Value.slice s2 VN c2)]).length = m + 1) := by show _ = _; rw [List.length_append, unhide HTn]; rfl
                have hm2 : m + 1 ≤ 2 * k + 1 := by omega
                clear HTn hm k0 k1 TW BW CW PW Hsz1 HE1 HE2 HBa HB5
                have TW := HT5
                have BW := hb5w
                have CW := CW5
                have PW := PW5
                clear HT5 hb5w CW5 PW5
                have p0 := (unhide PW).c0
                have p1 := (unhide PW).c1
                have k0 := (unhide CW).c0
                have Hsa := hide (quiet_same (w := W5) (unhide PW).key.at_ (unhide CW).key.at_ (unhide HLP))
                go_wp2
              all_goals
                by_cases heq : pr.1 = ch.key
                · rw [decide_eq_true heq] at Hsa
                  have HS13 := hide (snoc_eq (unhide HS12) heq)
                  clear heq HS12
                  go_big_quiet (first | (go_at_call 19; refine Calls.quiet_of (unhide Hsa _)) | fail)
                  have TN := hide ((unhide TW).call (below_drewNb (Below.refl _ _) nq))
                  have BN := hide ((unhide BW).trans ((below_drewNb (Below.refl _ _) nq).mono (unhide BW).size))
                  clear TW BW CW PW p0 p1 k0 Hsa
                  go_wp2
                  exact ⟨⟨k + 1, _, _, _, _, _, by omega, by omega, by simp, rfl, rfl, HTn2, TN, HS13, BN⟩, by simp [intOf]; omega⟩
                · rw [decide_eq_false heq] at Hsa
                  have HS13 := hide (snoc_ne (x := (pr, Value.slice q1 KP d1, Value.slice q2 VP d2)) (unhide HS12) heq)
                  clear heq HS12
                  go_big_quiet (first | (go_at_call 19; refine Calls.quiet_of (unhide Hsa _)) | fail)
                  obtain ⟨WN, hWN⟩ : ∃ y, W5.drewN nq = y := ⟨_, rfl⟩
                  have hbN : Below W5.heap.size W5 WN := by rw [← hWN]; exact below_drewNb (Below.refl _ _) nq
                  rw [hWN]
                  have PN := hide ((unhide PW).aside (S := none_) (Aside.of_below hbN) (fun _ h => h.elim) (unhide HGP))
                  have TN := hide ((unhide TW).call hbN)
                  have BN := hide ((unhide BW).trans (hbN.mono (unhide BW).size))
                  clear hbN hWN TW BW CW PW p0 p1 k0 Hsa
                  have p0 := (unhide PN).c0
                  have p1 := (unhide PN).c1
                  obtain ⟨W6, hW6⟩ : ∃ y, WN.alloc (.cells #[Value.slice q1 KP d1, Value.slice q2 VP d2] 78) = y := ⟨_, rfl⟩
                  have hb6 : Below WN.heap.size WN W6 := by rw [← hW6]; exact (Below.refl _ _).alloc (Nat.le_refl _) _
                  have HC6 : Hid (W6.cell? ⟨WN.heap.size, 0, none⟩ = some (Value.slice q1 KP d1) ∧ W6.cell? ⟨WN.heap.size, 0 + 1, none⟩ = some (Value.slice q2 VP d2)) := by show _ ∧ _; rw [← hW6]; exact cells_new2 _ _ _ _
                  have T6 := hide ((unhide TN).call hb6)
                  have B6 := hide ((unhide BN).trans (hb6.mono (unhide BN).size))
                  have HE1 := hide ((unhide PN).key.aside (S := none_) (Aside.of_below hb6) fun _ h => h.elim)
                  have HE2 := hide ((unhide PN).val.aside (S := none_) (Aside.of_below hb6) fun _ h => h.elim)
                  clear hb6 PN TN BN
                  go_wp2_with (first
                    | (at_builtin; refine wpList_append_pair rfl _ _ rfl _ _ rfl (unhide T6) WN.heap.size 0 1 rfl (pr, Value.slice q1 KP d1, Value.slice q2 VP d2) (unhide HC6).1 (unhide HC6).2 rfl rfl (unhide B6).size (by have := unhide HTn2; omega) (unhide HKb) (unhide HE1) (unhide HE2) ?_
                       intro v7 W7 s7 c7 e7 hr7 hb7
                       rw [unhide HTn2] at e7
                       subst e7
                       have T7 := hide hr7
                       have B7 := hide ((unhide B6).trans hb7)
                       clear hr7 hb7))
                  have HTn7 := hide (snoc_len (unhide HTn2) (pr, Value.slice q1 KP d1, Value.slice q2 VP d2))
                  exact ⟨⟨k + 1, _, _, _, _, _, by omega, by omega, by simp, rfl, rfl, HTn7, T7, HS13, B7⟩, by simp [intOf]; omega⟩
            · rw [hle] at Hle HST
              have HS12 : Hid (prsT t ++ (if pr.1 = ch.key then [] else [pr]) ++ insP ch false (P.drop (k + 1)) = insP ch ch.gone P) := by
                have h := unhide HST
                rw [if_neg (by simp), List.append_nil] at h
                exact h
              clear hle HST
              go_wp2
              go_big_quiet (first | (go_at_call 54; refine Calls.quiet_of (unhide Hle _)) | fail)
              go_wp2
              obtain ⟨W, hW⟩ : ∃ y, wr.drewN nq = y := ⟨_, rfl⟩
              have hbW : Below wr.heap.size wr W := by rw [← hW]; exact below_drewNb (Below.refl _ _) nq
              rw [hW]
              have CW := hide ((unhide HC).aside (S := none_) (Aside.of_below hbW) (fun _ h => h.elim) (unhide HGk))
              have PW := hide ((unhide H2).aside (S := none_) (Aside.of_below hbW) (fun _ h => h.elim) (unhide HGP))
              have TW := hide ((unhide HT).call hbW)
              have BW := hide ((unhide HBo).trans (hbW.mono (unhide HBo).size))
              have HTn2 := HTn
              have hm2 : m ≤ 2 * k + 1 := by omega
              clear hbW hW HT HBo HC H2 k0 k1 p0 p1 Hle HTn hm
              have p0 := (unhide PW).c0
              have p1 := (unhide PW).c1
              have k0 := (unhide CW).c0
              have Hsa := hide (quiet_same (w := W) (unhide PW).key.at_ (unhide CW).key.at_ (unhide HLP))
              by_cases heq : pr.1 = ch.key
              · rw [decide_eq_true heq] at Hsa
                have HS13 := hide (snoc_eq (unhide HS12) heq)
                clear heq HS12
                go_big_quiet (first | (go_at_call 19; refine Calls.quiet_of (unhide Hsa _)) | fail)
                have TN := hide ((unhide TW).call (below_drewNb (Below.refl _ _) nq))
                have BN := hide ((unhide BW).trans ((below_drewNb (Below.refl _ _) nq).mono (unhide BW).size))
                clear TW BW CW PW p0 p1 k0 Hsa
                go_wp2
                exact ⟨⟨k + 1, _, _, _, _, _, by omega, by omega, by simp, rfl, rfl, HTn2, TN, HS13, BN⟩, by simp [intOf]; omega⟩
              · rw [decide_eq_false heq] at Hsa
                have HS13 := hide (snoc_ne (x := (pr, Value.slice q1 KP d1, Value.slice q2 VP d2)) (unhide HS12) heq)
                clear heq HS12
                go_big_quiet (first | (go_at_call 19; refine Calls.quiet_of (unhide Hsa _)) | fail)
                obtain ⟨WN, hWN⟩ : ∃ y, W.drewN nq = y := ⟨_, rfl⟩
                have hbN : Below W.heap.size W WN := by rw [← hWN]; exact below_drewNb (Below.refl _ _) nq
                rw [hWN]
                have PN := hide ((unhide PW).aside (S := none_) (Aside.of_below hbN) (fun _ h => h.elim) (unhide HGP))
                have TN := hide ((unhide TW).call hbN)
                have BN := hide ((unhide BW).trans (hbN.mono (unhide BW).size))
                clear hbN hWN TW BW CW PW p0 p1 k0 Hsa
                have p0 := (unhide PN).c0
                have p1 := (unhide PN).c1
                obtain ⟨W6, hW6⟩ : ∃ y, WN.alloc (.cells #[Value.slice q1 KP d1, Value.slice q2 VP d2] 78) = y := ⟨_, rfl⟩
                have hb6 : Below WN.heap.size WN W6 := by rw [← hW6]; exact (Below.refl _ _).alloc (Nat.le_refl _) _
                have HC6 : Hid (W6.cell? ⟨WN.heap.size, 0, none⟩ = some (Value.slice q1 KP d1) ∧ W6.cell? ⟨WN.heap.size, 0 + 1, none⟩ = some (Value.slice q2 VP d2)) := by show _ ∧ _; rw [← hW6]; exact cells_new2 _ _ _ _
                have T6 := hide ((unhide TN).call hb6)
                have B6 := hide ((unhide BN).trans (hb6.mono (unhide BN).size))
                have HE1 := hide ((unhide PN).key.aside (S := none_) (Aside.of_below hb6) fun _ h => h.elim)
                have HE2 := hide ((unhide PN).val.aside (S := none_) (Aside.of_below hb6) fun _ h => h.elim)
                clear hb6 PN TN BN
                go_wp2_with (first
                  | (at_builtin; refine wpList_append_pair rfl _ _ rfl _ _ rfl (unhide T6) WN.heap.size 0 1 rfl (pr, Value.slice q1 KP d1, Value.slice q2 VP d2) (unhide HC6).1 (unhide HC6).2 rfl rfl (unhide B6).size (by have := unhide HTn2; omega) (unhide HKb) (unhide HE1) (unhide HE2) ?_
                     intro v7 W7 s7 c7 e7 hr7 hb7
                     rw [unhide HTn2] at e7
                     subst e7
                     have T7 := hide hr7
                     have B7 := hide ((unhide B6).trans hb7)
                     clear hr7 hb7))
                have HTn7 := hide (snoc_len (unhide HTn2) (pr, Value.slice q1 KP d1, Value.slice q2 VP d2))
                exact ⟨⟨k + 1, _, _, _, _, _, by omega, by omega, by simp, rfl, rfl, HTn7, T7, HS13, B7⟩, by simp [intOf]; omega⟩
          · have HS12 : Hid (prsT t ++ (if pr.1 = ch.key then [] else [pr]) ++ insP ch true (P.drop (k + 1)) = insP ch ch.gone P) := by
              have h := unhide HST
              rw [if_neg (by simp), List.append_nil, Bool.true_or] at h
              exact h
            clear HST
            go_wp2
            go_big_quiet (fail)
            go_wp2
            obtain ⟨W, hW⟩ : ∃ y, wr.drewN nq = y := ⟨_, rfl⟩
            have hbW : Below wr.heap.size wr W := by rw [← hW]; exact below_drewNb (Below.refl _ _) nq
            rw [hW]
            have CW := hide ((unhide HC).aside (S := none_) (Aside.of_below hbW) (fun _ h => h.elim) (unhide HGk))
            have PW := hide ((unhide H2).aside (S := none_) (Aside.of_below hbW) (fun _ h => h.elim) (unhide HGP))
            have TW := hide ((unhide HT).call hbW)
            have BW := hide ((unhide HBo).trans (hbW.mono (unhide HBo).size))
            have HTn2 := HTn
            have hm2 : m ≤ 2 * k + 1 := by omega
            clear hbW hW HT HBo HC H2 k0 k1 p0 p1 Hle HTn hm
            have p0 := (unhide PW).c0
            have p1 := (unhide PW).c1
            have k0 := (unhide CW).c0
            have Hsa := hide (quiet_same (w := W) (unhide PW).key.at_ (unhide CW).key.at_ (unhide HLP))
            by_cases heq : pr.1 = ch.key
            · rw [decide_eq_true heq] at Hsa
              have HS13 := hide (snoc_eq (unhide HS12) heq)
              clear heq HS12
              go_big_quiet (first | (go_at_call 19; refine Calls.quiet_of (unhide Hsa _)) | fail)
              have TN := hide ((unhide TW).call (below_drewNb (Below.refl _ _) nq))
              have BN := hide ((unhide BW).trans ((below_drewNb (Below.refl _ _) nq).mono (unhide BW).size))
              clear TW BW CW PW p0 p1 k0 Hsa
              go_wp2
              exact ⟨⟨k + 1, _, _, _, _, _, by omega, by omega, by simp, rfl, rfl, HTn2, TN, HS13, BN⟩, by simp [intOf]; omega⟩
            · rw [decide_eq_false heq] at Hsa
              have HS13 := hide (snoc_ne (x := (pr, Value.slice q1 KP d1, Value.slice q2 VP d2)) (unhide HS12) heq)
              clear heq HS12
              go_big_quiet (first | (go_at_call 19; refine Calls.quiet_of (unhide Hsa _)) | fail)
              obtain ⟨WN, hWN⟩ : ∃ y, W.drewN nq = y := ⟨_, rfl⟩
              have hbN : Below W.heap.size W WN := by rw [← hWN]; exact below_drewNb (Below.refl _ _) nq
              rw [hWN]
              have PN := hide ((unhide PW).aside (S := none_) (Aside.of_below hbN) (fun _ h => h.elim) (unhide HGP))
              have TN := hide ((unhide TW).call hbN)
              have BN := hide ((unhide BW).trans (hbN.mono (unhide BW).size))
              clear hbN hWN TW BW CW PW p0 p1 k0 Hsa
              have p0 := (unhide PN).c0
              have p1 := (unhide PN).c1
              obtain ⟨W6, hW6⟩ : ∃ y, WN.alloc (.cells #[Value.slice q1 KP d1, Value.slice q2 VP d2] 78) = y := ⟨_, rfl⟩
              have hb6 : Below WN.heap.size WN W6 := by rw [← hW6]; exact (Below.refl _ _).alloc (Nat.le_refl _) _
              have HC6 : Hid (W6.cell? ⟨WN.heap.size, 0, none⟩ = some (Value.slice q1 KP d1) ∧ W6.cell? ⟨WN.heap.size, 0 + 1, none⟩ = some (Value.slice q2 VP d2)) := by show _ ∧ _; rw [← hW6]; exact cells_new2 _ _ _ _
              have T6 := hide ((unhide TN).call hb6)
              have B6 := hide ((unhide BN).trans (hb6.mono (unhide BN).size))
              have HE1 := hide ((unhide PN).key.aside (S := none_) (Aside.of_below hb6) fun _ h => h.elim)
              have HE2 := hide ((unhide PN).val.aside (S := none_) (Aside.of_below hb6) fun _ h => h.elim)
              clear hb6 PN TN BN
              go_wp2_with (first
                | (at_builtin; refine wpList_append_pair rfl _ _ rfl _ _ rfl (unhide T6) WN.heap.size 0 1 rfl (pr, Value.slice q1 KP d1, Value.slice q2 VP d2) (unhide HC6).1 (unhide HC6).2 rfl rfl (unhide B6).size (by have := unhide HTn2; omega) (unhide HKb) (unhide HE1) (unhide HE2) ?_
                   intro v7 W7 s7 c7 e7 hr7 hb7
                   rw [unhide HTn2] at e7
                   subst e7
                   have T7 := hide hr7
                   have B7 := hide ((unhide B6).trans hb7)
                   clear hr7 hb7))
              have HTn7 := hide (snoc_len (unhide HTn2) (pr, Value.slice q1 KP d1, Value.slice q2 VP d2))
              exact ⟨⟨k + 1, _, _, _, _, _, by omega, by omega, by simp, rfl, rfl, HTn7, T7, HS13, B7⟩, by simp [intOf]; omega⟩
        · have hkn : n = k := by omega
          subst hkn
          have hdrop : P.drop n = [] := List.drop_of_length_le (by have := unhide HQn; omega)
          have HI2 : Hid (prsT t ++ (if pt = true then [] else [(ch.key, ch.val)]) = withP ps (l.take (i + 1))) := by
            have h := unhide HI
            rw [hdrop, ins_nil, unhide HT1] at h
            exact h
          have HFew : Hid ((withP ps (l.take (i + 1))).length ≤ NP + (i + 1)) := by
            have h1 := with_few (l.take (i + 1)) ps
            have h2 := unhide HNP
            have h3 : (l.take (i + 1)).length ≤ i + 1 := by rw [List.length_take]; omega
            show _ ≤ _
            omega
          have f2 : decide ((n : Int) < (n : Int)) = false := by simp
          have f2n : decide (n < n) = false := by simp
          have HKo : Hid (∀ k, wo.heap.size ≤ k → K k ∨ w.heap.size ≤ k) := fun k hk => Or.inr (by have := (unhide HB).size; omega)
          have HC : Hid (Ch3 K2 wr g (o + i * 3) ch (.slice s1 KN c1) (.slice s2 VN c2)) := (unhide HCo).aside (S := none_) (Aside.of_below (unhide HBo)) (fun _ h => h.elim) (unhide HGk)
          have k0 := (unhide HC).c0
          have k1 := (unhide HC).c1
          clear hdrop HI HT1 HGB HPo HCo HQn HKq
          obtain ⟨PN, hPN⟩ : ∃ y, withP ps (l.take (i + 1)) = y := ⟨_, rfl⟩
          have HPN := hide hPN
          rw [hPN] at HI2 HFew
          clear hPN
          cases pt
          · have HE : Hid (prsT (t ++ [((ch.key, ch.val), Value.slice s1 KN c1, Value.slice s2 VN c2)]) = PN) := by
              show _ = _
              rw [prsT_snoc]
              have h := unhide HI2
              rw [if_neg (by simp)] at h
              exact h
            have Hsz1 : Hid (wo.heap.size ≤ (wr.drew.alloc (.cells #[Value.slice s1 KN c1, Value.slice s2 VN c2] 78)).heap.size) := ((unhide HBo).drew.alloc (unhide HBo).size _).size
            have HBa : Hid (Below wr.heap.size wr (wr.drew.alloc (.cells #[Value.slice s1 KN c1, Value.slice s2 VN c2] 78))) := (Below.refl _ _).drew.alloc (Nat.le_refl _) _
            have HE1 := hide ((unhide HC).key.aside (S := none_) (Aside.of_below (unhide HBa)) fun _ h => h.elim)
            have HE2 := hide ((unhide HC).val.aside (S := none_) (Aside.of_below (unhide HBa)) fun _ h => h.elim)
            clear HI2
            go_wp2
            go_region_law (first
              | (refine step_append_pair rfl _ _ rfl (.slice so m co) t (by simp [Act.eval]) ((unhide HT).call (unhide HBa)) wr.heap.size 0 1 (by simp [Act.eval]) ((ch.key, ch.val), Value.slice s1 KN c1, Value.slice s2 VN c2) (cells_new2 _ _ _ _).1 (cells_new2 _ _ _ _).2 rfl rfl (unhide Hsz1) (by have := unhide HTn; omega) (unhide HKb) (unhide HE1) (unhide HE2) ?_
                 intro v5 W5 s5 c5 e5 hr5 hb5
                 rw [unhide HTn] at e5
                 subst e5
                 have HT5 := hide hr5
                 have HB5 := hide hb5
                 clear hr5 hb5))
            all_goals
              have HQ5 := hide ((unhide HT5).at_ (unhide HKa) (unhide HKo))
              rw [unhide HE] at HQ5
              have HL5 : Hid (PN.length = m + 1) := by show _ = _; rw [← unhide HE]; unfold prsT; rw [List.length_map]; exact snoc_len (unhide HTn) _
              have HB6 := hide ((unhide HB).trans ((((unhide HBo).trans ((unhide HBa).mono (unhide HBo).size)).trans (unhide HB5)).mono (unhide HB).size))
              clear HT5 HB5 HE HBa Hsz1 HE1 HE2 k0 k1 HC HT
              go_wp2
              exact ⟨⟨i + 1, _, _, _, by omega, by have := unhide HFew; have := unhide HL5; omega, by simp, rfl, by rw [unhide HPN]; exact HL5, by rw [unhide HPN]; exact HQ5, HB6⟩, by simp [intOf]; omega⟩
          · have HE : Hid (prsT t = PN) := by
              have h := unhide HI2
              rw [if_pos rfl, List.append_nil] at h
              exact h
            have HQ5 := hide ((unhide HT).at_ (unhide HKa) (unhide HKo))
            rw [unhide HE] at HQ5
            have HL5 : Hid (PN.length = m) := by show _ = _; rw [← unhide HE]; unfold prsT; rw [List.length_map]; exact unhide HTn
            have HB6 := hide ((unhide HB).trans ((unhide HBo).mono (unhide HB).size))
            clear HI2 HE k0 k1 HC HT
            go_wp2
            exact ⟨⟨i + 1, _, _, _, by omega, by have := unhide HFew; have := unhide HL5; omega, by simp, rfl, by rw [unhide HPN]; exact HL5, by rw [unhide HPN]; exact HQ5, HB6⟩, by simp [intOf]; omega⟩
    · have hin : N = i := by omega
      subst hin
      have f1 : decide ((N : Int) < (N : Int)) = false := by simp
      have f1n : decide (N < N) = false := by simp
      have HQ5 := hide (unhide HQ)
      rw [List.take_of_length_le (by have := unhide HN; omega)] at HQ5
      clear HQ HQn
      go_wp2
      go_ret
      exact ⟨_, rfl, (unhide HQ5).mono fun k hk h => ⟨h, hk⟩, unhide HB⟩
end Go.Proofs.YtbjgknoipbekoaaGreat
