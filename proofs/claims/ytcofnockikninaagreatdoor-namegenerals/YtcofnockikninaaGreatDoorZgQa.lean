/- Parts of the walk. -/
import Derived.Test.YtcofnockikninaaGreatDoorZgPq10
import Derived.Test.YtcofnockikninaaGreatDoorZgRA
import Derived.Test.YtcofnockikninaaGreatDoorZgRD
import Derived.Test.YtcofnockikninaaGreatDoorZgPD
set_option maxRecDepth 100000
set_option maxHeartbeats 8000000
namespace Go.Proofs.YtcofnockikninaaGreatDoor
open Go.RowKit
theorem prn_all : ∀ n : Fin 256, prnN n.val = printP (UInt8.ofNat n.val) := by decide +kernel
theorem prn_print (c : UInt8) : prnN c.toNat = printP c := by
 have h := prn_all ⟨c.toNat, c.toNat_lt⟩
 simp only [UInt8.ofNat_toNat] at h
 exact h
namespace Q
open N K
theorem qkind_c (w : World) (s : ByteArray) (hs : s.size ≤ 1000000) : Calls Tryz.prog 60 #[.string s] w fun e w' => e = .returned (.int .i64 (textT (bs s) : Int)) ∧ w' = w := by
 obtain ⟨b, hb⟩ := exq (bs s)
 obtain ⟨N, hN⟩ := exq s.size
 have HbN : Hid (b.length = N) := by show _ = _; rw [← hb, bs_len, hN]
 rw [hb]
 have HX : Hid (∀ k, k < N → ∃ p : Nat, (b.getD k 0).toNat = p ∧ ∀ W, (Instr.index 9 (.string s) (.int .i64 (k : Int))).run Tryz.prog W = .ok (.int .u8 (p : Int)) W) := fun k hk =>
  ⟨_, rfl, fun W => index_str s k (by omega) _ (by rw [hb]) W⟩
 have HT : Hid ((∀ c ∈ b, printP c = true) → textT b = 19) := fun h => by
  unfold textT
  rw [if_pos]
  rw [List.all_eq_true]
  exact fun c hc => by rw [prn_print]; exact h c hc
 have HF : Hid ((∃ c ∈ b, printP c = false) → textT b = 12) := fun h => by
  obtain ⟨c, hc, hp⟩ := h
  unfold textT
  rw [if_neg]
  rw [List.all_eq_true]
  exact fun h => by have := h c hc; rw [prn_print, hp] at this; cases this
 obtain ⟨T, hT⟩ := exq (textT b)
 rw [hT] at HT HF ⊢
 rw [hN] at hs
 clear hb hT
 go_enter Tryz.func60, Tryz.ntmps60
 go_wp2
 go_loopw [3] (fun ii wr => ∃ k : Nat, k ≤ N ∧ ii = .int .i64 (k : Int) ∧ Hid (∀ c ∈ b.take k, printP c = true) ∧ Hid (wr = w)) (fun ii _ => N - (intOf ii).toNat)
 case atStart => exact ⟨0, by omega, rfl, fun c hc => by simp at hc, rfl⟩
 case round =>
  obtain ⟨k, hk, rfl, HP, HW⟩ := hrel
  by_cases hlt : k < N
  ·obtain ⟨p, hp, hix⟩ := u_ HX k hlt
   obtain ⟨f1, f1n⟩ := ltVV k N
   have k0 : (0 : Int) ≤ (k : Int) := by omega
   have hkl : k < b.length := by have := u_ HbN; omega
   have Hc : Hid (Calls Tryz.prog 91 #[.int .u8 (p : Int)] wr fun e w' => e = .returned (.bool (printP (b.getD k 0))) ∧ w' = wr) := by
    have h := print_any (b.getD k 0) wr
    unfold bv at h
    rw [hp] at h
    exact h
   obtain ⟨U, hU⟩ := exq (printP (b.getD k 0))
   rw [hU] at Hc
   have HU := h_ hU
   have Hmem := h_ (getD_mem hkl)
   have Htk : Hid (b.take (k + 1) = b.take k ++ [b.getD k 0]) := take_snocQ hkl
   clear hp hU hkl
   cases U with
   | true =>
    have HP2 : Hid (∀ c ∈ b.take (k + 1), printP c = true) := fun c hc => by
     rw [u_ Htk, List.mem_append, List.mem_singleton] at hc
     rcases hc with hc | rfl
     ·exact u_ HP c hc
     ·exact u_ HU
    go_wp2_with (go_at_call 91; refine Hc.mono ?_; rintro e w' ⟨rfl, hw⟩; obtain rfl := hw)
    go_roundw
    case rel =>
     first
      | exact ⟨k + 1, by omega, by go_num, HP2, HW⟩
      | ((repeat apply Exists.intro); exact ⟨⟨k + 1, by omega, by go_num, HP2, HW⟩, rfl⟩)
    case measure => simp [intOf]; omega
   | false =>
    have HF2 := h_ (u_ HF ⟨_, u_ Hmem, u_ HU⟩)
    go_wp2_with (go_at_call 91; refine Hc.mono ?_; rintro e w' ⟨rfl, hw⟩; obtain rfl := hw)
    go_ret
    exact ⟨by rw [u_ HF2]; rfl, u_ HW⟩
  ·obtain ⟨f1, f1n⟩ := ltVVf k N
   have HT2 : Hid (T = 19) := u_ HT (fun c hc => u_ HP c (by rw [List.take_of_length_le (by have := u_ HbN; omega)]; exact hc))
   go_wp2
   go_ret
   exact ⟨by rw [u_ HT2]; rfl, u_ HW⟩
theorem qtexty_c (w : World) (s : ByteArray) (hs : s.size ≤ 1000000) : Calls Tryz.prog 59 #[.string s] w fun e w' => e = .returned (.bool (textP (bs s))) ∧ Below w.heap.size w w' := by
 obtain ⟨N, hN⟩ := exq s.size
 obtain ⟨V, hV⟩ := exq (Lib.validD (bs s))
 have HB := h_ (Below.refl w.heap.size w)
 by_cases h1 : 1 ≤ N
 ·obtain ⟨a1, a1n⟩ := leLV 1 1 N
  have hne : bs s ≠ [] := fun e => by have := bs_len s; rw [e, hN] at this; simp at this; omega
  by_cases h2 : N ≤ 64
  ·obtain ⟨a2, a2n⟩ := leVL N 64 64
   have HT : Hid (textP (bs s) = V) := by show _ = _; unfold textP; rw [decide_eq_false hne, bs_len, hN, decide_eq_true h2, hV]; rfl
   obtain ⟨cp, w2, hcv, hby, hb⟩ := conv_bytes w s
   obtain ⟨BB, hBB⟩ := exq w.heap.size
   rw [hBB, hN] at hcv hby
   have Hb2 := h_ hb
   have Hu : Hid (Calls Tryz.prog 90 #[.slice (some ⟨BB, 0, none⟩) N cp] w2 fun e w' => e = .returned (.bool V) ∧ w' = w2) := by
    have h := utf8s_any w2 _ (bs s) hby (by rw [bs_len]; omega)
    rw [← valid_utf8, hV] at h
    exact h
   clear hne hV hby hb
   go_enter Tryz.func59, Tryz.ntmps59
   go_wp2_with fail
   refine Hu.mono ?_
   rintro e w' ⟨rfl, hw⟩
   obtain rfl := hw
   go_wp2
   go_ret
   exact ⟨by rw [u_ HT]; cases V <;> rfl, u_ Hb2⟩
  ·obtain ⟨a2, a2n⟩ := leVLf N 64 64
   have HT : Hid (textP (bs s) = false) := by show _ = _; unfold textP; rw [bs_len, hN, decide_eq_false h2]; simp
   clear hne hV
   go_enter Tryz.func59, Tryz.ntmps59
   go_wp2
   go_ret
   exact ⟨by rw [u_ HT]; rfl, u_ HB⟩
 ·obtain ⟨a1, a1n⟩ := leLVf 1 1 N
  have HT : Hid (textP (bs s) = false) := by
   show _ = _
   unfold textP
   rw [decide_eq_true (List.eq_nil_of_length_eq_zero (by rw [bs_len]; omega))]
   rfl
  clear hV
  go_enter Tryz.func59, Tryz.ntmps59
  go_wp2
  go_ret
  exact ⟨by rw [u_ HT]; rfl, u_ HB⟩
end Q
structure QRow (wb w : World) (v : Value) (d : List (Bs × Bs)) : Prop where
 own : w.ownsRow wb.heap.size 110 2 v d.length (cellsA d)
 b : Below wb.heap.size wb w
theorem qrow_nil (w : World) : QRow w w (.slice none 0 0) [] := ⟨World.ownsRow_nil w _ 110 2, Below.refl _ _⟩
theorem QRow.call {wb w w' : World} {v : Value} {d : List (Bs × Bs)} (h : QRow wb w v d) (hb : Below w.heap.size w w') : QRow wb w' v d := by
 refine ⟨⟨h.own.1, ?_⟩, h.b.trans (hb.mono h.b.size)⟩
 rcases h.own.2 with h2 | ⟨g, cap, cur, hv, hB, hg, r⟩
 ·exact Or.inl h2
 ·exact Or.inr ⟨g, cap, cur, hv, hB, by rw [hb.block g (Array.getElem?_eq_some_iff.1 hg).1]; exact hg, r⟩
theorem QRow.form {wb w : World} {v : Value} {d : List (Bs × Bs)} (h : QRow wb w v d) : ∃ sp c, v = .slice sp d.length c := by
 rcases h.own.2 with ⟨rfl, e⟩ | ⟨g, cap, cur, rfl, _⟩
 ·exact ⟨none, 0, by rw [e]⟩
 ·exact ⟨_, _, rfl⟩
theorem QRow.dn {wb w : World} {v : Value} {d : List (Bs × Bs)} (h : QRow wb w v d) : DnAt w v d := by
 rcases h.own.2 with ⟨rfl, e⟩ | ⟨g, cap, cur, rfl, _, hg, hn, _⟩
 ·refine ⟨none, 0, by rw [e], by omega, fun _ => rfl, fun hd => absurd (List.eq_nil_of_length_eq_zero e) hd⟩
 ·refine ⟨_, _, rfl, hn, fun e => (by cases e), fun _ => ⟨g, 0, rfl, fun i a hi => ?_⟩⟩
  obtain ⟨h1, h2⟩ := cellsA_at d i a hi
  have k1 := World.ownsRow.cells h.own (g := g) rfl _ _ h1
  have k2 := World.ownsRow.cells h.own (g := g) rfl _ _ h2
  rw [Addr.add_mid] at k1 k2
  rw [Nat.zero_add] at k1 k2 ⊢
  exact ⟨k1, k2⟩
theorem qattr_info : ∃ i, Tryz.prog.info? 110 = some i ∧ i.zero = some (.agg #[.string ByteArray.empty, .string ByteArray.empty]) ∧ i.size = 2 ∧ i.bytes = 32 := by
 have h : (Tryz.prog.info? 110).map (fun i => (i.zero, i.size, i.bytes)) = some (some (.agg #[.string ByteArray.empty, .string ByteArray.empty]), 2, 32) := by kernel_rfl
 obtain ⟨i, hi, h2⟩ := Option.map_eq_some_iff.1 h
 simp only [Prod.mk.injEq] at h2
 exact ⟨i, hi, h2.1, h2.2.1, h2.2.2⟩
theorem run_append_qattrs (wb w : World) (v x : Value) (d e : List (Bs × Bs)) (hd : QRow wb w v d) (hx : DnAt w x e) (he : e ≠ []) (hl : d.length + e.length ≤ 1000000) (ty : TypeId) :
  ∃ v' w', (Builtin.append_ #[59, 59] ty #[v, x]).run Tryz.prog w = .ok v' w' ∧ QRow wb w' v' (d ++ e) ∧ w.grownBy w' v.ownBlock := by
 obtain ⟨i, hi, hz, hsz, hby⟩ := qattr_info
 obtain ⟨sp, c, rfl, _, _, h3⟩ := hx
 obtain ⟨b, o, rfl, hc⟩ := h3 he
 have hn : ∀ j u, (cellsA e)[j]? = some u → w.cell? ((⟨b, o, none⟩ : Addr).add j) = some u := fun j u hu => by
  rw [Addr.add_mid]
  obtain ⟨i, a, h1, h2⟩ := cellsA_back e j u hu
  obtain ⟨k1, k2⟩ := hc i a h1
  rcases h2 with ⟨rfl, rfl⟩ | ⟨rfl, rfl⟩
  ·exact k1
  ·rw [← Nat.add_assoc]; exact k2
 obtain ⟨v', w', hr, h2, h3, _⟩ := run_append_own (P := Tryz.prog) w wb.heap.size 59 ty 110 i _ 2 32 Tryz.underlying59 hi hz hsz hby rfl (by omega) v d.length (cellsA d) hd.own ⟨b, o, none⟩ e.length c (cellsA e) (cellsA_len e) hn (cellsA_one e) (by simp only [maxLen]; omega) (by omega) hd.b.size
 refine ⟨v', w', hr, ⟨?_, ?_⟩, h3⟩
 ·rw [cellsA_app, List.length_append]; exact h2
 ·exact hd.b.grown h3 hd.b.size (fun g hg => (World.ownsRow.lt hd.own g hg).1)
theorem wpList_append_qattrs {wb w : World} {ops : Array Oper} {rest : List Oper} {o : Oper} {a : Act} {Q : Exit → Act → World → Prop} (hgd : o.guard = none) (s x : Operand)
  (ho : o.op = .call { callee := .builtin .append, args := #[s, x], argTypes := #[59, 59] }) (v y : Value) (d e : List (Bs × Bs)) (hs : a.eval s = v) (hd : QRow wb w v d)
  (hx : a.eval x = y) (hy : DnAt w y e) (he : e ≠ []) (hl : d.length + e.length ≤ 1000000)
  (h : ∀ v' w', QRow wb w' v' (d ++ e) → w.grownBy w' v.ownBlock → wpList Tryz.prog ops Q rest (a.put o.dst v') w') : wpList Tryz.prog ops Q (o :: rest) a w := by
 obtain ⟨v', w', hr, h2, h3⟩ := run_append_qattrs wb w v y d e hd hy he hl o.type
 refine wpList_plain hgd fun _ hK => ?_
 unfold Oper.wp execOp
 simp only [ho, resolve, invoke, builtin, Sem.run_bind, Sem.run_pure, Result.andThen_ok, List.map_toArray, List.map_cons, List.map_nil, hs, hx, hr]
 exact hK _ _ (h v' w' h2 h3)
theorem one_qattr (w : World) (a b : ByteArray) : DnAt (w.alloc (.cells #[.string a, .string b] 110)) (.slice (some ⟨w.heap.size, 0, none⟩) 1 1) [(N.bs a, N.bs b)] := by
 refine ⟨_, 1, rfl, Nat.le_refl _, fun e => (by cases e), fun _ => ⟨w.heap.size, 0, rfl, fun i x hi => ?_⟩⟩
 match i, hi with
 | 0, hi =>
  simp only [List.getElem?_cons_zero, Option.some.injEq] at hi
  subst hi
  simp only [N.st_bs]
  exact ⟨cell_of_row _ _ _ _ 110 (0, 0) (heap_alloc_new w _) |>.trans rfl, cell_of_row _ _ _ _ 110 (0, 0) (heap_alloc_new w _) |>.trans rfl⟩
 | i + 1, hi => simp at hi
namespace Q
open N K
theorem qsamedn_c (w : World) (sa sb : Option Addr) (n m ca cb : Nat) (da db : List (Bs × Bs)) (ha : DnAt w (.slice sa n ca) da) (hb : DnAt w (.slice sb m cb) db) (hn : da.length = n) (hm : db.length = m) (hn9 : n ≤ 1000000000) (hm9 : m ≤ 1000000000) :
  Calls Tryz.prog 27 #[.slice sa n ca, .slice sb m cb] w fun e w' => e = .returned (.bool (sameP da db)) ∧ Below w.heap.size w w' := by
 obtain ⟨ANS, hA⟩ := exq (sameP da db)
 rw [hA]
 have HA := h_ hA
 have Ha : Hid (∀ wr, Below w.heap.size w wr → DnAt wr (.slice sa n ca) da) := fun wr h => ha.below h
 have Hb : Hid (∀ wr, Below w.heap.size w wr → DnAt wr (.slice sb m cb) db) := fun wr h => hb.below h
 have Hn := h_ hn
 have Hm := h_ hm
 clear hA ha hb hn hm
 by_cases hnm : n = m
 ·subst hnm
  have g1 : ((n : Int) != (n : Int)) = false := by simp
  go_enter Tryz.func27, Tryz.ntmps27
  go_wp2
  clear g1
  go_loopw [5] (fun ii wr => ∃ k : Nat, k ≤ n ∧ ii = .int .i64 (k : Int) ∧ Hid (da.take k = db.take k) ∧ Hid (Below w.heap.size w wr)) (fun ii _ => n - (intOf ii).toNat)
  case atStart => exact ⟨0, by omega, rfl, rfl, Below.refl _ _⟩
  case round =>
   obtain ⟨k, hk, rfl, HE, HB⟩ := hrel
   by_cases hlt : k < n
   ·obtain ⟨a, ba, oa, hda, rfl, ha1, ha2⟩ := dnc_at (u_ Ha wr (u_ HB)) (k := k) (by have := u_ Hn; omega)
    obtain ⟨b, bb, ob, hdb, rfl, hb1, hb2⟩ := dnc_at (u_ Hb wr (u_ HB)) (k := k) (by have := u_ Hm; omega)
    obtain ⟨f1, f1n⟩ := ltVV k n
    have k0 : (0 : Int) ≤ (k : Int) := by omega
    have k1 : (k : Int) < (n : Int) := by omega
    obtain ⟨P, hP⟩ := exq (decide (a.1 = b.1))
    obtain ⟨Q, hQ⟩ := exq (decide (a.2 = b.2))
    obtain ⟨t1, ht1⟩ := exq (st a.1)
    obtain ⟨t2, ht2⟩ := exq (st a.2)
    obtain ⟨u1, hu1⟩ := exq (st b.1)
    obtain ⟨u2, hu2⟩ := exq (st b.2)
    rw [ht1] at ha1
    rw [ht2] at ha2
    rw [hu1] at hb1
    rw [hu2] at hb2
    have e1 : (t1.toList == u1.toList) = P := by rw [eql_str, ← ht1, ← hu1, bs_st, bs_st]; exact hP
    have e2 : (t2.toList == u2.toList) = Q := by rw [eql_str, ← ht2, ← hu2, bs_st, bs_st]; exact hQ
    have HPQ : Hid ((P = true → Q = true → da.take (k + 1) = db.take (k + 1)) ∧ ((P = false ∨ Q = false) → ANS = false)) := by
     refine ⟨fun h1 h2 => ?_, fun h => ?_⟩
     ·have hab : a = b := by
       cases a; cases b
       rw [h1] at hP
       rw [h2] at hQ
       simp only at hP hQ
       rw [of_decide_eq_true hP, of_decide_eq_true hQ]
      rw [List.take_add_one, List.take_add_one, u_ HE, hda, hdb, hab]
     ·rw [← u_ HA]
      refine decide_eq_false fun he => ?_
      rw [he, hdb, Option.some.injEq] at hda
      subst hda
      rcases h with h | h
      ·rw [h] at hP; simp at hP
      ·rw [h] at hQ; simp at hQ
    clear hP hQ ht1 ht2 hu1 hu2 hda hdb
    cases P <;> cases Q
    case true.true =>
     have HE2 := h_ (HPQ.1 rfl rfl)
     clear HPQ
     go_wp2
     go_region
     go_wp2
     go_roundw
     case rel =>
      first
       | exact ⟨k + 1, by omega, by go_num, HE2, HB.drew⟩
       | ((repeat apply Exists.intro); exact ⟨⟨k + 1, by omega, by go_num, HE2, HB.drew⟩, rfl⟩)
     case measure => simp [intOf]; omega
    all_goals
     have HF := h_ (HPQ.2 (by simp))
     clear HPQ
     go_wp2
     go_region
     go_wp2
     go_ret
     exact ⟨by rw [u_ HF]; rfl, HB.drew⟩
   ·obtain ⟨f1, f1n⟩ := ltVVf k n
    have HF : Hid (ANS = true) := by
     show _ = _
     rw [← u_ HA]
     refine decide_eq_true ?_
     have h := u_ HE
     rw [List.take_of_length_le (by have := u_ Hn; omega), List.take_of_length_le (by have := u_ Hm; omega)] at h
     exact h
    go_wp2
    go_ret
    exact ⟨by rw [u_ HF]; rfl, u_ HB⟩
 ·have g1 : ((n : Int) != (m : Int)) = true := by simp; omega
  have g2 : ((n : Int) == (m : Int)) = false := by simp; omega
  have HF : Hid (ANS = false) := by
   show _ = _
   rw [← u_ HA]
   refine decide_eq_false fun he => hnm ?_
   rw [← u_ Hn, ← u_ Hm, he]
  have HB := h_ (Below.refl w.heap.size w)
  clear hnm
  go_enter Tryz.func27, Tryz.ntmps27
  go_wp2
  go_ret
  exact ⟨by rw [u_ HF]; rfl, u_ HB⟩
theorem attrs_c (w : World) (sp : Option Addr) (n c : Nat) (d : List (Bs × Bs)) (hd : DnAt w (.slice sp n c) d) (hn : d.length = n) (hn9 : n ≤ 10000) :
  Calls Tryz.prog 26 #[.slice sp n c] w fun e w' => ∃ sq k, e = .returned (.slice sq n k) ∧ DnAt w' (.slice sq n k) d ∧ Below w.heap.size w w' := by
 have Hd : Hid (∀ wr, Below w.heap.size w wr → DnAt wr (.slice sp n c) d) := fun wr hb => hd.below hb
 have Hn := h_ hn
 clear hd hn
 go_enter Tryz.func26, Tryz.ntmps26
 go_wp2
 go_loopw [3, 8] (fun oo ii wr => ∃ (i k : Nat) (sq : Option Addr), i ≤ n ∧ oo = .slice sq i k ∧ ii = .int .i64 (i : Int) ∧ Hid (QRow w wr (.slice sq i k) (d.take i))) (fun _ ii _ => n - (intOf ii).toNat)
 case atStart => exact ⟨0, 0, none, by omega, rfl, rfl, qrow_nil w⟩
 case round =>
  obtain ⟨i, k, sq, hi, rfl, rfl, HA⟩ := hrel
  by_cases hlt : i < n
  ·obtain ⟨a, bb, oo, hda, rfl, h1, h2⟩ := dnc_at (u_ Hd wr HA.b) (k := i) (by have := u_ Hn; omega)
   obtain ⟨f1, f1n⟩ := ltVV i n
   have k0 : (0 : Int) ≤ (i : Int) := by omega
   have k1 : (i : Int) < (n : Int) := by omega
   obtain ⟨t1, ht1⟩ := exq (st a.1)
   obtain ⟨t2, ht2⟩ := exq (st a.2)
   rw [ht1] at h1
   rw [ht2] at h2
   obtain ⟨w3, hw3⟩ := exq (wr.alloc (.cells #[.string t1, .string t2] 103))
   obtain ⟨A, eA⟩ := exq wr.heap.size
   have hB := Blk.new HA.b #[.string t1, .string t2] 103
   have hb3 := allocB hw3
   rw [hw3, eA] at hB
   have a0 : w3.cell? ⟨A, 0, none⟩ = some (.string t1) := hB.cell 0 _ rfl
   have a1 : w3.cell? ⟨A, 1, none⟩ = some (.string t2) := hB.cell 1 _ rfl
   have HA3 := h_ ((HA.call hb3).call ((Below.refl w3.heap.size w3).alloc (Nat.le_refl _) (.cells #[.string t1, .string t2] 110)))
   have Hone := h_ (one_qattr w3 t1 t2)
   have HBa : Hid ([(bs t1, bs t2)] = [a]) := by show _ = _; rw [← ht1, ← ht2, bs_st, bs_st]
   have Htk : Hid (d.take (i + 1) = d.take i ++ [a]) := by show _ = _; rw [List.take_add_one, hda]; rfl
   have Hdl : Hid ((d.take i).length = i ∧ (d.take (i + 1)).length = i + 1) := by have := u_ Hn; exact ⟨by rw [List.length_take]; omega, by rw [List.length_take]; omega⟩
   clear hB hb3 ht1 ht2 hda HA
   go_wp2_with (at_builtin; refine wpList_append_qattrs rfl _ _ rfl (.slice sq i k) (.slice (some ⟨w3.heap.size, 0, none⟩) 1 1) (d.take i) [a] rfl (u_ HA3) rfl (by rw [← u_ HBa]; exact u_ Hone) (by simp) (by rw [Hdl.1]; simp only [List.length_singleton]; omega) ?_
                intro v3 W3 hR3 _
                rw [← u_ Htk] at hR3
                obtain ⟨p3, q3, rfl⟩ := hR3.form
                rw [Hdl.2] at hR3 ⊢
                have HR3 := h_ hR3
                clear hR3)
   go_roundw
   case rel =>
    first
     | exact ⟨i + 1, q3, p3, by omega, rfl, by go_num, HR3⟩
     | ((repeat apply Exists.intro); exact ⟨⟨i + 1, q3, p3, by omega, rfl, by go_num, HR3⟩, rfl⟩)
   case measure => simp [intOf]; omega
  ·obtain ⟨f1, f1n⟩ := ltVVf i n
   have hie : i = n := by omega
   rw [hie] at HA ⊢
   have hall : d.take n = d := List.take_of_length_le (by have := u_ Hn; omega)
   rw [hall] at HA
   have f2 : decide ((n : Int) < (n : Int)) = false := by simp
   clear f1 f1n hie hall hlt hi
   go_wp2
   go_ret
   exact ⟨_, _, rfl, HA.dn, HA.b⟩
end Q
namespace Q
open N K
theorem can_q (n : Nat) (S : Nat → Prop) (v : DV) (w : World) (cs : List Value) (hv : VAt n S w cs v) (hw : weight v ≤ 100000) :
  Calls Tryz.prog 40 #[.agg cs.toArray] w fun e w' => e = .returned (.bool (rightV v)) ∧ Below w.heap.size w w' := by
 obtain ⟨s1, c1, s2, c2, rfl⟩ := hv.form
 obtain ⟨kc, kt, km, kl, kk, hkc, hkt, hkm, hkl, hkk⟩ := ex5 v
 simp only [hkc, hkt, hkm, hkl, hkk] at hv ⊢
 clear hkc hkt hkm hkl hkk
 obtain ⟨w1, X, hw1, eX, hA⟩ := blkN (Below.refl w.heap.size w) #[.int .i64 kc, .int .i64 kt, .bool km, .slice s1 kl c1, .slice s2 kk c2] 33
 have Hwr := h_ (write_ref n S v w1 _ (hv.below hA.b) hw)
 unfold dcells at Hwr ⊢
 have k0 := hA.cell 0 _ rfl
 have k1 := hA.cell 1 _ rfl
 have k2 := hA.cell 2 _ rfl
 have k3 := hA.cell 3 _ rfl
 have k4 := hA.cell 4 _ rfl
 have HA := h_ hA
 obtain ⟨er, her⟩ := exq (errOf (writeTop formD v))
 rw [her] at Hwr
 obtain ⟨U, hU⟩ := exq ((er : Int) == 0)
 have HT : Hid (rightV v = U) := by
  show _ = _
  rw [right_err, her, ← hU]
  by_cases h : er = 0 <;> simp [h]
 clear hA hv hw her
 cases U <;>
  (go_enter Tryz.func40, Tryz.ntmps40
   go_wp2_with fail
   refine Hwr.mono ?_
   rintro e w2 ⟨x, rfl, hO, hb2⟩
   have HA2 := h_ (HA.call hb2)
   obtain ⟨px, qx, rfl⟩ := hO.form
   clear hO hb2 k0 k1 k2 k3 k4 HA
   go_wp2
   go_ret
   exact ⟨by rw [u_ HT]; rfl, HA2.b⟩)
end Q
end Go.Proofs.YtcofnockikninaaGreatDoor
