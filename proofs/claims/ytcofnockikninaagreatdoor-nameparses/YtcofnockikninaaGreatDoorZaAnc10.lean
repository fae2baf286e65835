/- Parts of the walk. -/
import Derived.Test.YtcofnockikninaaGreatDoorZaPq10
import Derived.Test.YtcofnockikninaaGreatDoorZaRA
import Derived.Test.YtcofnockikninaaGreatDoorZaRD
import Derived.Test.YtcofnockikninaaGreatDoorZaPD
import Derived.Test.YtcofnockikninaaGreatDoorZaNn
import Derived.Lib.TrimAscii
import Derived.Lib.MapLaws
import Derived.Lib.SplitLaws
import Derived.Test.YtcofnockikninaaGreatDoorZaNj
import Derived.Lib.SlBytesConst
set_option maxRecDepth 100000
set_option maxHeartbeats 8000000
namespace Go.Proofs.YtcofnockikninaaGreatDoor
open Go.RowKit
theorem prn_all : ∀ n : Fin 256, prnN n.val = printP (UInt8.ofNat n.val) := by decide +kernel
theorem prn_print (c : UInt8) : prnN c.toNat = printP c := by
 have h := prn_all ⟨c.toNat, c.toNat_lt⟩
 simp only [UInt8.ofNat_toNat] at h
 exact h
namespace Q
open N K
theorem qkind_c (w : World) (s : ByteArray) (hs : s.size ≤ 1000000) : Calls Tryz.prog 60 #[.string s] w fun e w' => e = .returned (.int .i64 (textT (bs s) : Int)) ∧ w' = w := by
 obtain ⟨b, hb⟩ := exq (bs s)
 obtain ⟨N, hN⟩ := exq s.size
 have HbN : Hid (b.length = N) := by show _ = _; rw [← hb, bs_len, hN]
 rw [hb]
 have HX : Hid (∀ k, k < N → ∃ p : Nat, (b.getD k 0).toNat = p ∧ ∀ W, (Instr.index 9 (.string s) (.int .i64 (k : Int))).run Tryz.prog W = .ok (.int .u8 (p : Int)) W) := fun k hk =>
  ⟨_, rfl, fun W => index_str s k (by omega) _ (by rw [hb]) W⟩
 have HT : Hid ((∀ c ∈ b, printP c = true) → textT b = 19) := fun h => by
  unfold textT
  rw [if_pos]
  rw [List.all_eq_true]
  exact fun c hc => by rw [prn_print]; exact h c hc
 have HF : Hid ((∃ c ∈ b, printP c = false) → textT b = 12) := fun h => by
  obtain ⟨c, hc, hp⟩ := h
  unfold textT
  rw [if_neg]
  rw [List.all_eq_true]
  exact fun h => by have := h c hc; rw [prn_print, hp] at this; cases this
 obtain ⟨T, hT⟩ := exq (textT b)
 rw [hT] at HT HF ⊢
 rw [hN] at hs
 clear hb hT
 go_enter Tryz.func60, Tryz.ntmps60
 go_wp2
 go_loopw [3] (fun ii wr => ∃ k : Nat, k ≤ N ∧ ii = .int .i64 (k : Int) ∧ Hid (∀ c ∈ b.take k, printP c = true) ∧ Hid (wr = w)) (fun ii _ => N - (intOf ii).toNat)
 case atStart => exact ⟨0, by omega, rfl, fun c hc => by simp at hc, rfl⟩
 case round =>
  obtain ⟨k, hk, rfl, HP, HW⟩ := hrel
  by_cases hlt : k < N
  ·obtain ⟨p, hp, hix⟩ := u_ HX k hlt
   obtain ⟨f1, f1n⟩ := ltVV k N
   have k0 : (0 : Int) ≤ (k : Int) := by omega
   have hkl : k < b.length := by have := u_ HbN; omega
   have Hc : Hid (Calls Tryz.prog 91 #[.int .u8 (p : Int)] wr fun e w' => e = .returned (.bool (printP (b.getD k 0))) ∧ w' = wr) := by
    have h := print_any (b.getD k 0) wr
    unfold bv at h
    rw [hp] at h
    exact h
   obtain ⟨U, hU⟩ := exq (printP (b.getD k 0))
   rw [hU] at Hc
   have HU := h_ hU
   have Hmem := h_ (getD_mem hkl)
   have Htk : Hid (b.take (k + 1) = b.take k ++ [b.getD k 0]) := take_snocQ hkl
   clear hp hU hkl
   cases U with
   | true =>
    have HP2 : Hid (∀ c ∈ b.take (k + 1), printP c = true) := fun c hc => by
     rw [u_ Htk, List.mem_append, List.mem_singleton] at hc
     rcases hc with hc | rfl
     ·exact u_ HP c hc
     ·exact u_ HU
    go_wp2_with (go_at_call 91; refine Hc.mono ?_; rintro e w' ⟨rfl, hw⟩; obtain rfl := hw)
    go_roundw
    case rel =>
     first
      | exact ⟨k + 1, by omega, by go_num, HP2, HW⟩
      | ((repeat apply Exists.intro); exact ⟨⟨k + 1, by omega, by go_num, HP2, HW⟩, rfl⟩)
    case measure => simp [intOf]; omega
   | false =>
    have HF2 := h_ (u_ HF ⟨_, u_ Hmem, u_ HU⟩)
    go_wp2_with (go_at_call 91; refine Hc.mono ?_; rintro e w' ⟨rfl, hw⟩; obtain rfl := hw)
    go_ret
    exact ⟨by rw [u_ HF2]; rfl, u_ HW⟩
  ·obtain ⟨f1, f1n⟩ := ltVVf k N
   have HT2 : Hid (T = 19) := u_ HT (fun c hc => u_ HP c (by rw [List.take_of_length_le (by have := u_ HbN; omega)]; exact hc))
   go_wp2
   go_ret
   exact ⟨by rw [u_ HT2]; rfl, u_ HW⟩
theorem qtexty_c (w : World) (s : ByteArray) (hs : s.size ≤ 1000000) : Calls Tryz.prog 59 #[.string s] w fun e w' => e = .returned (.bool (textP (bs s))) ∧ Below w.heap.size w w' := by
 obtain ⟨N, hN⟩ := exq s.size
 obtain ⟨V, hV⟩ := exq (Lib.validD (bs s))
 have HB := h_ (Below.refl w.heap.size w)
 by_cases h1 : 1 ≤ N
 ·obtain ⟨a1, a1n⟩ := leLV 1 1 N
  have hne : bs s ≠ [] := fun e => by have := bs_len s; rw [e, hN] at this; simp at this; omega
  by_cases h2 : N ≤ 64
  ·obtain ⟨a2, a2n⟩ := leVL N 64 64
   have HT : Hid (textP (bs s) = V) := by show _ = _; unfold textP; rw [decide_eq_false hne, bs_len, hN, decide_eq_true h2, hV]; rfl
   obtain ⟨cp, w2, hcv, hby, hb⟩ := conv_bytes w s
   obtain ⟨BB, hBB⟩ := exq w.heap.size
   rw [hBB, hN] at hcv hby
   have Hb2 := h_ hb
   have Hu : Hid (Calls Tryz.prog 90 #[.slice (some ⟨BB, 0, none⟩) N cp] w2 fun e w' => e = .returned (.bool V) ∧ w' = w2) := by
    have h := utf8s_any w2 _ (bs s) hby (by rw [bs_len]; omega)
    rw [← valid_utf8, hV] at h
    exact h
   clear hne hV hby hb
   go_enter Tryz.func59, Tryz.ntmps59
   go_wp2_with fail
   refine Hu.mono ?_
   rintro e w' ⟨rfl, hw⟩
   obtain rfl := hw
   go_wp2
   go_ret
   exact ⟨by rw [u_ HT]; cases V <;> rfl, u_ Hb2⟩
  ·obtain ⟨a2, a2n⟩ := leVLf N 64 64
   have HT : Hid (textP (bs s) = false) := by show _ = _; unfold textP; rw [bs_len, hN, decide_eq_false h2]; simp
   clear hne hV
   go_enter Tryz.func59, Tryz.ntmps59
   go_wp2
   go_ret
   exact ⟨by rw [u_ HT]; rfl, u_ HB⟩
 ·obtain ⟨a1, a1n⟩ := leLVf 1 1 N
  have HT : Hid (textP (bs s) = false) := by
   show _ = _
   unfold textP
   rw [decide_eq_true (List.eq_nil_of_length_eq_zero (by rw [bs_len]; omega))]
   rfl
  clear hV
  go_enter Tryz.func59, Tryz.ntmps59
  go_wp2
  go_ret
  exact ⟨by rw [u_ HT]; rfl, u_ HB⟩
end Q
structure QRow (wb w : World) (v : Value) (d : List (Bs × Bs)) : Prop where
 own : w.ownsRow wb.heap.size 110 2 v d.length (cellsA d)
 b : Below wb.heap.size wb w
theorem qrow_nil (w : World) : QRow w w (.slice none 0 0) [] := ⟨World.ownsRow_nil w _ 110 2, Below.refl _ _⟩
theorem QRow.call {wb w w' : World} {v : Value} {d : List (Bs × Bs)} (h : QRow wb w v d) (hb : Below w.heap.size w w') : QRow wb w' v d := by
 refine ⟨⟨h.own.1, ?_⟩, h.b.trans (hb.mono h.b.size)⟩
 rcases h.own.2 with h2 | ⟨g, cap, cur, hv, hB, hg, r⟩
 ·exact Or.inl h2
 ·exact Or.inr ⟨g, cap, cur, hv, hB, by rw [hb.block g (Array.getElem?_eq_some_iff.1 hg).1]; exact hg, r⟩
theorem QRow.form {wb w : World} {v : Value} {d : List (Bs × Bs)} (h : QRow wb w v d) : ∃ sp c, v = .slice sp d.length c := by
 rcases h.own.2 with ⟨rfl, e⟩ | ⟨g, cap, cur, rfl, _⟩
 ·exact ⟨none, 0, by rw [e]⟩
 ·exact ⟨_, _, rfl⟩
theorem QRow.dn {wb w : World} {v : Value} {d : List (Bs × Bs)} (h : QRow wb w v d) : DnAt w v d := by
 rcases h.own.2 with ⟨rfl, e⟩ | ⟨g, cap, cur, rfl, _, hg, hn, _⟩
 ·refine ⟨none, 0, by rw [e], by omega, fun _ => rfl, fun hd => absurd (List.eq_nil_of_length_eq_zero e) hd⟩
 ·refine ⟨_, _, rfl, hn, fun e => (by cases e), fun _ => ⟨g, 0, rfl, fun i a hi => ?_⟩⟩
  obtain ⟨h1, h2⟩ := cellsA_at d i a hi
  have k1 := World.ownsRow.cells h.own (g := g) rfl _ _ h1
  have k2 := World.ownsRow.cells h.own (g := g) rfl _ _ h2
  rw [Addr.add_mid] at k1 k2
  rw [Nat.zero_add] at k1 k2 ⊢
  exact ⟨k1, k2⟩
theorem qattr_info : ∃ i, Tryz.prog.info? 110 = some i ∧ i.zero = some (.agg #[.string ByteArray.empty, .string ByteArray.empty]) ∧ i.size = 2 ∧ i.bytes = 32 := by
 have h : (Tryz.prog.info? 110).map (fun i => (i.zero, i.size, i.bytes)) = some (some (.agg #[.string ByteArray.empty, .string ByteArray.empty]), 2, 32) := by kernel_rfl
 obtain ⟨i, hi, h2⟩ := Option.map_eq_some_iff.1 h
 simp only [Prod.mk.injEq] at h2
 exact ⟨i, hi, h2.1, h2.2.1, h2.2.2⟩
theorem run_append_qattrs (wb w : World) (v x : Value) (d e : List (Bs × Bs)) (hd : QRow wb w v d) (hx : DnAt w x e) (he : e ≠ []) (hl : d.length + e.length ≤ 1000000) (ty : TypeId) :
  ∃ v' w', (Builtin.append_ #[59, 59] ty #[v, x]).run Tryz.prog w = .ok v' w' ∧ QRow wb w' v' (d ++ e) ∧ w.grownBy w' v.ownBlock := by
 obtain ⟨i, hi, hz, hsz, hby⟩ := qattr_info
 obtain ⟨sp, c, rfl, _, _, h3⟩ := hx
 obtain ⟨b, o, rfl, hc⟩ := h3 he
 have hn : ∀ j u, (cellsA e)[j]? = some u → w.cell? ((⟨b, o, none⟩ : Addr).add j) = some u := fun j u hu => by
  rw [Addr.add_mid]
  obtain ⟨i, a, h1, h2⟩ := cellsA_back e j u hu
  obtain ⟨k1, k2⟩ := hc i a h1
  rcases h2 with ⟨rfl, rfl⟩ | ⟨rfl, rfl⟩
  ·exact k1
  ·rw [← Nat.add_assoc]; exact k2
 obtain ⟨v', w', hr, h2, h3, _⟩ := run_append_own (P := Tryz.prog) w wb.heap.size 59 ty 110 i _ 2 32 Tryz.underlying59 hi hz hsz hby rfl (by omega) v d.length (cellsA d) hd.own ⟨b, o, none⟩ e.length c (cellsA e) (cellsA_len e) hn (cellsA_one e) (by simp only [maxLen]; omega) (by omega) hd.b.size
 refine ⟨v', w', hr, ⟨?_, ?_⟩, h3⟩
 ·rw [cellsA_app, List.length_append]; exact h2
 ·exact hd.b.grown h3 hd.b.size (fun g hg => (World.ownsRow.lt hd.own g hg).1)
theorem wpList_append_qattrs {wb w : World} {ops : Array Oper} {rest : List Oper} {o : Oper} {a : Act} {Q : Exit → Act → World → Prop} (hgd : o.guard = none) (s x : Operand)
  (ho : o.op = .call { callee := .builtin .append, args := #[s, x], argTypes := #[59, 59] }) (v y : Value) (d e : List (Bs × Bs)) (hs : a.eval s = v) (hd : QRow wb w v d)
  (hx : a.eval x = y) (hy : DnAt w y e) (he : e ≠ []) (hl : d.length + e.length ≤ 1000000)
  (h : ∀ v' w', QRow wb w' v' (d ++ e) → w.grownBy w' v.ownBlock → wpList Tryz.prog ops Q rest (a.put o.dst v') w') : wpList Tryz.prog ops Q (o :: rest) a w := by
 obtain ⟨v', w', hr, h2, h3⟩ := run_append_qattrs wb w v y d e hd hy he hl o.type
 refine wpList_plain hgd fun _ hK => ?_
 unfold Oper.wp execOp
 simp only [ho, resolve, invoke, builtin, Sem.run_bind, Sem.run_pure, Result.andThen_ok, List.map_toArray, List.map_cons, List.map_nil, hs, hx, hr]
 exact hK _ _ (h v' w' h2 h3)
theorem one_qattr (w : World) (a b : ByteArray) : DnAt (w.alloc (.cells #[.string a, .string b] 110)) (.slice (some ⟨w.heap.size, 0, none⟩) 1 1) [(N.bs a, N.bs b)] := by
 refine ⟨_, 1, rfl, Nat.le_refl _, fun e => (by cases e), fun _ => ⟨w.heap.size, 0, rfl, fun i x hi => ?_⟩⟩
 match i, hi with
 | 0, hi =>
  simp only [List.getElem?_cons_zero, Option.some.injEq] at hi
  subst hi
  simp only [N.st_bs]
  exact ⟨cell_of_row _ _ _ _ 110 (0, 0) (heap_alloc_new w _) |>.trans rfl, cell_of_row _ _ _ _ 110 (0, 0) (heap_alloc_new w _) |>.trans rfl⟩
 | i + 1, hi => simp at hi
namespace Q
open N K
theorem qsamedn_c (w : World) (sa sb : Option Addr) (n m ca cb : Nat) (da db : List (Bs × Bs)) (ha : DnAt w (.slice sa n ca) da) (hb : DnAt w (.slice sb m cb) db) (hn : da.length = n) (hm : db.length = m) (hn9 : n ≤ 1000000000) (hm9 : m ≤ 1000000000) :
  Calls Tryz.prog 27 #[.slice sa n ca, .slice sb m cb] w fun e w' => e = .returned (.bool (sameP da db)) ∧ Below w.heap.size w w' := by
 obtain ⟨ANS, hA⟩ := exq (sameP da db)
 rw [hA]
 have HA := h_ hA
 have Ha : Hid (∀ wr, Below w.heap.size w wr → DnAt wr (.slice sa n ca) da) := fun wr h => ha.below h
 have Hb : Hid (∀ wr, Below w.heap.size w wr → DnAt wr (.slice sb m cb) db) := fun wr h => hb.below h
 have Hn := h_ hn
 have Hm := h_ hm
 clear hA ha hb hn hm
 by_cases hnm : n = m
 ·subst hnm
  have g1 : ((n : Int) != (n : Int)) = false := by simp
  go_enter Tryz.func27, Tryz.ntmps27
  go_wp2
  clear g1
  go_loopw [5] (fun ii wr => ∃ k : Nat, k ≤ n ∧ ii = .int .i64 (k : Int) ∧ Hid (da.take k = db.take k) ∧ Hid (Below w.heap.size w wr)) (fun ii _ => n - (intOf ii).toNat)
  case atStart => exact ⟨0, by omega, rfl, rfl, Below.refl _ _⟩
  case round =>
   obtain ⟨k, hk, rfl, HE, HB⟩ := hrel
   by_cases hlt : k < n
   ·obtain ⟨a, ba, oa, hda, rfl, ha1, ha2⟩ := dnc_at (u_ Ha wr (u_ HB)) (k := k) (by have := u_ Hn; omega)
    obtain ⟨b, bb, ob, hdb, rfl, hb1, hb2⟩ := dnc_at (u_ Hb wr (u_ HB)) (k := k) (by have := u_ Hm; omega)
    obtain ⟨f1, f1n⟩ := ltVV k n
    have k0 : (0 : Int) ≤ (k : Int) := by omega
    have k1 : (k : Int) < (n : Int) := by omega
    obtain ⟨P, hP⟩ := exq (decide (a.1 = b.1))
    obtain ⟨Q, hQ⟩ := exq (decide (a.2 = b.2))
    obtain ⟨t1, ht1⟩ := exq (st a.1)
    obtain ⟨t2, ht2⟩ := exq (st a.2)
    obtain ⟨u1, hu1⟩ := exq (st b.1)
    obtain ⟨u2, hu2⟩ := exq (st b.2)
    rw [ht1] at ha1
    rw [ht2] at ha2
    rw [hu1] at hb1
    rw [hu2] at hb2
    have e1 : (t1.toList == u1.toList) = P := by rw [eql_str, ← ht1, ← hu1, bs_st, bs_st]; exact hP
    have e2 : (t2.toList == u2.toList) = Q := by rw [eql_str, ← ht2, ← hu2, bs_st, bs_st]; exact hQ
    have HPQ : Hid ((P = true → Q = true → da.take (k + 1) = db.take (k + 1)) ∧ ((P = false ∨ Q = false) → ANS = false)) := by
     refine ⟨fun h1 h2 => ?_, fun h => ?_⟩
     ·have hab : a = b := by
       cases a; cases b
       rw [h1] at hP
       rw [h2] at hQ
       simp only at hP hQ
       rw [of_decide_eq_true hP, of_decide_eq_true hQ]
      rw [List.take_add_one, List.take_add_one, u_ HE, hda, hdb, hab]
     ·rw [← u_ HA]
      refine decide_eq_false fun he => ?_
      rw [he, hdb, Option.some.injEq] at hda
      subst hda
      rcases h with h | h
      ·rw [h] at hP; simp at hP
      ·rw [h] at hQ; simp at hQ
    clear hP hQ ht1 ht2 hu1 hu2 hda hdb
    cases P <;> cases Q
    case true.true =>
     have HE2 := h_ (HPQ.1 rfl rfl)
     clear HPQ
     go_wp2
     go_region
     go_wp2
     go_roundw
     case rel =>
      first
       | exact ⟨k + 1, by omega, by go_num, HE2, HB.drew⟩
       | ((repeat apply Exists.intro); exact ⟨⟨k + 1, by omega, by go_num, HE2, HB.drew⟩, rfl⟩)
     case measure => simp [intOf]; omega
    all_goals
     have HF := h_ (HPQ.2 (by simp))
     clear HPQ
     go_wp2
     go_region
     go_wp2
     go_ret
     exact ⟨by rw [u_ HF]; rfl, HB.drew⟩
   ·obtain ⟨f1, f1n⟩ := ltVVf k n
    have HF : Hid (ANS = true) := by
     show _ = _
     rw [← u_ HA]
     refine decide_eq_true ?_
     have h := u_ HE
     rw [List.take_of_length_le (by have := u_ Hn; omega), List.take_of_length_le (by have := u_ Hm; omega)] at h
     exact h
    go_wp2
    go_ret
    exact ⟨by rw [u_ HF]; rfl, u_ HB⟩
 ·have g1 : ((n : Int) != (m : Int)) = true := by simp; omega
  have g2 : ((n : Int) == (m : Int)) = false := by simp; omega
  have HF : Hid (ANS = false) := by
   show _ = _
   rw [← u_ HA]
   refine decide_eq_false fun he => hnm ?_
   rw [← u_ Hn, ← u_ Hm, he]
  have HB := h_ (Below.refl w.heap.size w)
  clear hnm
  go_enter Tryz.func27, Tryz.ntmps27
  go_wp2
  go_ret
  exact ⟨by rw [u_ HF]; rfl, u_ HB⟩
theorem attrs_c (w : World) (sp : Option Addr) (n c : Nat) (d : List (Bs × Bs)) (hd : DnAt w (.slice sp n c) d) (hn : d.length = n) (hn9 : n ≤ 10000) :
  Calls Tryz.prog 26 #[.slice sp n c] w fun e w' => ∃ sq k, e = .returned (.slice sq n k) ∧ DnAt w' (.slice sq n k) d ∧ Below w.heap.size w w' := by
 have Hd : Hid (∀ wr, Below w.heap.size w wr → DnAt wr (.slice sp n c) d) := fun wr hb => hd.below hb
 have Hn := h_ hn
 clear hd hn
 go_enter Tryz.func26, Tryz.ntmps26
 go_wp2
 go_loopw [3, 8] (fun oo ii wr => ∃ (i k : Nat) (sq : Option Addr), i ≤ n ∧ oo = .slice sq i k ∧ ii = .int .i64 (i : Int) ∧ Hid (QRow w wr (.slice sq i k) (d.take i))) (fun _ ii _ => n - (intOf ii).toNat)
 case atStart => exact ⟨0, 0, none, by omega, rfl, rfl, qrow_nil w⟩
 case round =>
  obtain ⟨i, k, sq, hi, rfl, rfl, HA⟩ := hrel
  by_cases hlt : i < n
  ·obtain ⟨a, bb, oo, hda, rfl, h1, h2⟩ := dnc_at (u_ Hd wr HA.b) (k := i) (by have := u_ Hn; omega)
   obtain ⟨f1, f1n⟩ := ltVV i n
   have k0 : (0 : Int) ≤ (i : Int) := by omega
   have k1 : (i : Int) < (n : Int) := by omega
   obtain ⟨t1, ht1⟩ := exq (st a.1)
   obtain ⟨t2, ht2⟩ := exq (st a.2)
   rw [ht1] at h1
   rw [ht2] at h2
   obtain ⟨w3, hw3⟩ := exq (wr.alloc (.cells #[.string t1, .string t2] 103))
   obtain ⟨A, eA⟩ := exq wr.heap.size
   have hB := Blk.new HA.b #[.string t1, .string t2] 103
   have hb3 := allocB hw3
   rw [hw3, eA] at hB
   have a0 : w3.cell? ⟨A, 0, none⟩ = some (.string t1) := hB.cell 0 _ rfl
   have a1 : w3.cell? ⟨A, 1, none⟩ = some (.string t2) := hB.cell 1 _ rfl
   have HA3 := h_ ((HA.call hb3).call ((Below.refl w3.heap.size w3).alloc (Nat.le_refl _) (.cells #[.string t1, .string t2] 110)))
   have Hone := h_ (one_qattr w3 t1 t2)
   have HBa : Hid ([(bs t1, bs t2)] = [a]) := by show _ = _; rw [← ht1, ← ht2, bs_st, bs_st]
   have Htk : Hid (d.take (i + 1) = d.take i ++ [a]) := by show _ = _; rw [List.take_add_one, hda]; rfl
   have Hdl : Hid ((d.take i).length = i ∧ (d.take (i + 1)).length = i + 1) := by have := u_ Hn; exact ⟨by rw [List.length_take]; omega, by rw [List.length_take]; omega⟩
   clear hB hb3 ht1 ht2 hda HA
   go_wp2_with (at_builtin; refine wpList_append_qattrs rfl _ _ rfl (.slice sq i k) (.slice (some ⟨w3.heap.size, 0, none⟩) 1 1) (d.take i) [a] rfl (u_ HA3) rfl (by rw [← u_ HBa]; exact u_ Hone) (by simp) (by rw [Hdl.1]; simp only [List.length_singleton]; omega) ?_
                intro v3 W3 hR3 _
                rw [← u_ Htk] at hR3
                obtain ⟨p3, q3, rfl⟩ := hR3.form
                rw [Hdl.2] at hR3 ⊢
                have HR3 := h_ hR3
                clear hR3)
   go_roundw
   case rel =>
    first
     | exact ⟨i + 1, q3, p3, by omega, rfl, by go_num, HR3⟩
     | ((repeat apply Exists.intro); exact ⟨⟨i + 1, q3, p3, by omega, rfl, by go_num, HR3⟩, rfl⟩)
   case measure => simp [intOf]; omega
  ·obtain ⟨f1, f1n⟩ := ltVVf i n
   have hie : i = n := by omega
   rw [hie] at HA ⊢
   have hall : d.take n = d := List.take_of_length_le (by have := u_ Hn; omega)
   rw [hall] at HA
   have f2 : decide ((n : Int) < (n : Int)) = false := by simp
   clear f1 f1n hie hall hlt hi
   go_wp2
   go_ret
   exact ⟨_, _, rfl, HA.dn, HA.b⟩
end Q
namespace Q
open N K
theorem can_q (n : Nat) (S : Nat → Prop) (v : DV) (w : World) (cs : List Value) (hv : VAt n S w cs v) (hw : weight v ≤ 100000) :
  Calls Tryz.prog 40 #[.agg cs.toArray] w fun e w' => e = .returned (.bool (rightV v)) ∧ Below w.heap.size w w' := by
 obtain ⟨s1, c1, s2, c2, rfl⟩ := hv.form
 obtain ⟨kc, kt, km, kl, kk, hkc, hkt, hkm, hkl, hkk⟩ := ex5 v
 simp only [hkc, hkt, hkm, hkl, hkk] at hv ⊢
 clear hkc hkt hkm hkl hkk
 obtain ⟨w1, X, hw1, eX, hA⟩ := blkN (Below.refl w.heap.size w) #[.int .i64 kc, .int .i64 kt, .bool km, .slice s1 kl c1, .slice s2 kk c2] 33
 have Hwr := h_ (write_ref n S v w1 _ (hv.below hA.b) hw)
 unfold dcells at Hwr ⊢
 have k0 := hA.cell 0 _ rfl
 have k1 := hA.cell 1 _ rfl
 have k2 := hA.cell 2 _ rfl
 have k3 := hA.cell 3 _ rfl
 have k4 := hA.cell 4 _ rfl
 have HA := h_ hA
 obtain ⟨er, her⟩ := exq (errOf (writeTop formD v))
 rw [her] at Hwr
 obtain ⟨U, hU⟩ := exq ((er : Int) == 0)
 have HT : Hid (rightV v = U) := by
  show _ = _
  rw [right_err, her, ← hU]
  by_cases h : er = 0 <;> simp [h]
 clear hA hv hw her
 cases U <;>
  (go_enter Tryz.func40, Tryz.ntmps40
   go_wp2_with fail
   refine Hwr.mono ?_
   rintro e w2 ⟨x, rfl, hO, hb2⟩
   have HA2 := h_ (HA.call hb2)
   obtain ⟨px, qx, rfl⟩ := hO.form
   clear hO hb2 k0 k1 k2 k3 k4 HA
   go_wp2
   go_ret
   exact ⟨by rw [u_ HT]; rfl, HA2.b⟩)
end Q
def smallC (c : UInt8) : UInt8 := if capN c.toNat = true then UInt8.ofNat (c.toNat + 32) else c
def smallB (l : Bs) : Bs := l.map smallC
def labelP (l : Bs) : Bool := !decide (l = []) && decide (l.length ≤ 63) && (l.all fun c => labN c.toNat) && !decide ((l.getD 0 0).toNat = 45) && !decide ((l.getD (l.length - 1) 0).toNat = 45)
def machP (l : Bs) : Bool := (Lib.split l [46]).all labelP
def machW (m l : Bs) : Bool := machP (smallB m) && (decide (smallB l = []) || decide (smallB m = smallB l) || Lib.hasSuffix (smallB m) (46 :: smallB l))
theorem asc_at {s : Bs} (h : ascP s = true) : ∀ c ∈ s, c.toNat < 128 := fun c hc => by
 unfold ascP at h
 rw [List.all_eq_true] at h
 exact of_decide_eq_true (h c hc)
theorem capN_iff (r : Nat) : capN r = true ↔ 65 ≤ r ∧ r ≤ 90 := by unfold capN; simp
namespace N
open K
def smallZ (r : Int) : Int := if 65 ≤ r ∧ r ≤ 90 then r + 32 else r
theorem mapD_small : ∀ (l : Bs), (∀ c ∈ l, c.toNat < 128) → Lib.mapD smallZ l = smallB l
 | [], _ => rfl
 | b :: t, h => by
  have hb := h b List.mem_cons_self
  have hd := Lib.decodeL_ascii b t hb
  rw [Lib.mapD_step smallZ (b :: t) (by simp), hd]
  simp only [List.drop_succ_cons, List.drop_zero]
  rw [mapD_small t (fun c hc => h c (List.mem_cons_of_mem _ hc))]
  show _ = smallC b :: smallB t
  have e : (if 0 ≤ smallZ (b.toNat : Int) then Lib.encodeRune (smallZ (b.toNat : Int)) else []) = [smallC b] := by
   unfold smallZ smallC
   by_cases hc : capN b.toNat = true
   ·have h2 := (capN_iff _).1 hc
    rw [if_pos hc, if_pos (show (65 : Int) ≤ (b.toNat : Int) ∧ (b.toNat : Int) ≤ 90 by omega), if_pos (by omega)]
    unfold Lib.encodeRune
    rw [Lib.encodeRuneZ_one (by omega) (by omega)]
    simp only [List.map_cons, List.map_nil]
    congr 1
   ·have h2 : ¬ (65 ≤ b.toNat ∧ b.toNat ≤ 90) := fun h => hc ((capN_iff _).2 h)
    rw [if_neg hc, if_neg (show ¬ ((65 : Int) ≤ (b.toNat : Int) ∧ (b.toNat : Int) ≤ 90) by omega), if_pos (by omega)]
    unfold Lib.encodeRune
    rw [Lib.encodeRuneZ_one (by omega) (by omega)]
    simp only [List.map_cons, List.map_nil, Int.toNat_natCast]
    congr 1
    simp
  rw [e]
  rfl
theorem smallr_c (r : Nat) (hr : r ≤ 1114111) (w : World) : Calls Tryz.prog 117 #[.int .i32 (r : Int)] w fun e w' => e = .returned (.int .i32 (smallZ (r : Int))) ∧ w' = w := by
 have HC := h_ (iscap_c r (by omega) w)
 by_cases h : capN r = true
 ·have h2 := (capN_iff r).1 h
  rw [h] at HC
  obtain ⟨q, hq⟩ := exq (r - 65)
  obtain ⟨p, hp⟩ := exq (q + 97)
  have e1 : (r : Int) - 65 = (q : Int) := by omega
  have e2 : (q : Int) + 97 = (p : Int) := by omega
  have HT : Hid (smallZ (r : Int) = (p : Int)) := by show _ = _; unfold smallZ; rw [if_pos (by omega)]; omega
  clear hq hp
  go_enter Tryz.func117, Tryz.ntmps117
  go_wp2_with (go_at_call 147; refine HC.mono ?_; rintro e w' ⟨rfl, hw⟩; obtain rfl := hw)
  go_ret
  exact ⟨by rw [u_ HT]; rfl, rfl⟩
 ·have h' : capN r = false := by simpa using h
  have h2 : ¬ (65 ≤ r ∧ r ≤ 90) := fun k => h ((capN_iff r).2 k)
  rw [h'] at HC
  have HT : Hid (smallZ (r : Int) = (r : Int)) := by show _ = _; unfold smallZ; rw [if_neg (by omega)]
  clear h h' h2
  go_enter Tryz.func117, Tryz.ntmps117
  go_wp2_with (go_at_call 147; refine HC.mono ?_; rintro e w' ⟨rfl, hw⟩; obtain rfl := hw)
  go_ret
  exact ⟨by rw [u_ HT]; rfl, rfl⟩
theorem small_c (w : World) (hR : Rdy w) (s : ByteArray) (hs : s.size ≤ 1000000000) (ha : ascP (bs s) = true) : Calls Tryz.prog 96 #[.string s] w fun e w' => e = .returned (.string (st (smallB (bs s)))) ∧ Below w.heap.size w w' := by
 have hm := Tryz.strings_Map_runes 117 #[] (enters_of Tryz.func117 (by kernel_rfl) rfl) smallZ s w (by omega)
  (fun W x hx _ => (smallr_c x hx W).mono fun e w' h => ⟨h.1, 0, h.2⟩)
  (fun x hx => by unfold smallZ; split <;> omega) hR.tabs
 have e : Lib.mapD smallZ s.data.toList = smallB (bs s) := mapD_small (bs s) (asc_at ha)
 rw [e] at hm
 have Hm := h_ hm
 clear hm e ha
 go_enter Tryz.func96, Tryz.ntmps96
 go_wp2_with fail
 refine Hm.mono ?_
 rintro e w2 ⟨rfl, hb⟩
 have HB := h_ hb
 clear hb
 go_wp2
 go_ret
 exact ⟨rfl, u_ HB⟩
theorem islabel_c (w : World) (s : ByteArray) (hs : s.size ≤ 1000000000) : Calls Tryz.prog 115 #[.string s] w fun e w' => e = .returned (.bool (labelP (bs s))) ∧ Below w.heap.size w w' := by
 obtain ⟨N, hN⟩ := exq s.size
 have hl : (bs s).length = N := by rw [bs_len, hN]
 have bN : N ≤ 1000000000 := by omega
 by_cases h0 : N = 0
 ·have HT : Hid (labelP (bs s) = false) := by
   show _ = _
   unfold labelP
   rw [decide_eq_true (List.eq_nil_of_length_eq_zero (hl.trans h0))]
   rfl
  have he : (s.toList == ([] : Bs)) = true := by rw [nil_str]; exact decide_eq_true (List.eq_nil_of_length_eq_zero (hl.trans h0))
  have Hb := h_ (Below.refl w.heap.size w)
  clear hl
  go_enter Tryz.func115, Tryz.ntmps115
  go_wp2
  go_ret
  exact ⟨by rw [u_ HT]; rfl, u_ Hb⟩
 have hne : bs s ≠ [] := fun e => by rw [e] at hl; simp at hl; omega
 have he : (s.toList == ([] : Bs)) = false := by rw [nil_str]; exact decide_eq_false hne
 obtain ⟨L, hL⟩ := exq (decide (N ≤ 63))
 have hlz : decide ((N : Int) ≤ 63) = L := by rw [← hL, decide_eq_decide]; omega
 obtain ⟨V, hV⟩ := exq ((bs s).all fun c => labN c.toNat)
 obtain ⟨p, hp⟩ := exq (((bs s).getD 0 0).toNat)
 obtain ⟨q, hq⟩ := exq (((bs s).getD (N - 1) 0).toNat)
 obtain ⟨M, hM⟩ := exq (N - 1)
 rw [hM] at hq
 have eM : (N : Int) - 1 = (M : Int) := by omega
 obtain ⟨P, hP⟩ := exq (decide (p = 45))
 obtain ⟨Q, hQ⟩ := exq (decide (q = 45))
 have hpz : ((p : Int) == 45) = P := by rw [← hP]; by_cases h : p = 45 <;> simp [h] <;> omega
 have hqz : ((q : Int) == 45) = Q := by rw [← hQ]; by_cases h : q = 45 <;> simp [h] <;> omega
 have hpn : ((p : Int) != 45) = !P := by rw [← hpz]; rfl
 have hqn : ((q : Int) != 45) = !Q := by rw [← hqz]; rfl
 have ix0 : ∀ w, (Instr.index 9 (.string s) (.int .i64 0)).run Tryz.prog w = .ok (.int .u8 (p : Int)) w := fun w => index_str s 0 (by omega) p hp w
 have ixM : ∀ w, (Instr.index 9 (.string s) (.int .i64 (M : Int))).run Tryz.prog w = .ok (.int .u8 (q : Int)) w := fun w => index_str s M (by omega) q hq w
 have HT : Hid (labelP (bs s) = (L && V && !P && !Q)) := by
  show _ = _
  unfold labelP
  rw [decide_eq_false hne, hl, hL, hV, hp, hP, hM, hq, hQ]
  rfl
 have Hev := h_ (every_c 138 _ questLab s hs w)
 rw [hV] at Hev
 have Hb := h_ (Below.refl w.heap.size w)
 clear hl hne hV hp hq hM hP hQ h0
 cases L with
 | false =>
  go_enter Tryz.func115, Tryz.ntmps115
  go_wp2
  go_ret
  exact ⟨by rw [u_ HT]; rfl, u_ Hb⟩
 | true =>
  cases V with
  | false =>
   go_enter Tryz.func115, Tryz.ntmps115
   go_wp2_with fail
   refine Hev.mono ?_
   rintro e w2 ⟨rfl, hb⟩
   have HB := h_ hb
   clear hb
   go_wp2
   go_ret
   exact ⟨by rw [u_ HT]; rfl, u_ HB⟩
  | true =>
   cases P <;> cases Q <;>
   ·simp only [Bool.not_true, Bool.not_false] at hpn hqn
    go_enter Tryz.func115, Tryz.ntmps115
    go_wp2_with fail
    refine Hev.mono ?_
    rintro e w2 ⟨rfl, hb⟩
    have HB := h_ hb
    clear hb
    go_wp2
    go_ret
    exact ⟨by rw [u_ HT]; rfl, u_ HB⟩
end N
namespace N
open K
theorem ismach_c (w : World) (hR : Rdy w) (s : ByteArray) (hs : s.size ≤ 1000000000) : Calls Tryz.prog 95 #[.string s] w fun e w' => e = .returned (.bool (machP (bs s))) ∧ Below w.heap.size w w' := by
 obtain ⟨m, hm⟩ := hR.maxl
 have hsp := Tryz.strings_Split s (st [46]) m w (by omega) hm (by rw [st_size]; simp)
 obtain ⟨L, hL⟩ := exq (Lib.splitB (st [46]) 0 (Lib.countB s (st [46])) s)
 have hlen : L.length = Lib.countB s (st [46]) + 1 := by rw [← hL]; exact Lib.splitB_all (st [46]) (by rw [st_size]; simp) 0 _ s rfl
 have HM : Hid (machP (bs s) = L.all fun x => labelP (bs x)) := by
  show _ = _
  unfold machP Lib.split
  have h1 := Lib.splitB_data (st [46]) 0 (Lib.countB s (st [46])) s
  rw [hL] at h1
  have h2 : Lib.splitK [46] 0 (Lib.count (bs s) [46]) (bs s) = L.map fun x => bs x := by
   rw [show (fun x : ByteArray => bs x) = fun x => x.data.toList from rfl, h1, bs_st]
  rw [h2, List.all_map]
  rfl
 have hsz : ∀ x ∈ L, x.size ≤ 1000000000 := by
  have key : ∀ (k : Nat) (z : ByteArray), z.size ≤ 1000000000 → ∀ x ∈ Lib.splitB (st [46]) 0 k z, x.size ≤ 1000000000 := fun k => by
   induction k with
   | zero => intro z hz x hx; simp [Lib.splitB] at hx; rw [hx]; exact hz
   | succ k ih =>
    intro z hz x hx
    unfold Lib.splitB at hx
    split at hx
    ·simp at hx; rw [hx]; exact hz
    ·rw [List.mem_cons] at hx
     rcases hx with rfl | hx
     ·rw [ByteArray.size_extract]; omega
     ·exact ih _ (by rw [ByteArray.size_extract]; omega) x hx
  rw [← hL]
  exact key _ s hs
 obtain ⟨N, hN⟩ := exq L.length
 rw [← hlen, hL, hN] at hsp
 obtain ⟨w1, hw1⟩ := exq (w.alloc (.cells (L.map Value.string).toArray 9))
 obtain ⟨B, hB⟩ := exq w.heap.size
 rw [hw1, hB] at hsp
 have hA : Blk w w1 B (L.map Value.string).toArray 9 := by rw [← hw1, ← hB]; exact Blk.new (Below.refl _ _) _ _
 have Hsp := h_ hsp
 have HA := h_ hA
 have HN := h_ hN
 have Hsz := h_ hsz
 have hN2 : N ≤ 1000000001 := by
  have := Lib.countB_le (st [46]) (by rw [st_size]; simp) s.size s (Nat.le_refl _)
  omega
 clear hsp hA hN hsz hlen hL hw1 hm
 go_enter Tryz.func95, Tryz.ntmps95
 go_wp2_with fail
 refine Hsp.mono ?_
 rintro e w2 ⟨rfl, hw⟩
 obtain rfl := hw
 go_wp2
 go_loopw [8] (fun ii wr => ∃ k : Nat, k ≤ N ∧ ii = .int .i64 (k : Int) ∧ Hid ((L.take k).all (fun x => labelP (bs x)) = true) ∧ Hid (Blk w wr B (L.map Value.string).toArray 9)) (fun ii _ => N - (intOf ii).toNat)
 case atStart => exact ⟨0, by omega, rfl, rfl, HA⟩
 case round =>
  obtain ⟨k, hk, rfl, HE, HB⟩ := hrel
  clear HA Hsp
  by_cases hlt : k < N
  ·have hkl : k < L.length := by have := u_ HN; omega
   obtain ⟨x, hx⟩ := exq (L[k])
   have hc : w2.cell? ⟨B, k, none⟩ = w2.cell? ⟨B, k, none⟩ := rfl
   have hc : wr.cell? ⟨B, k, none⟩ = some (.string x) := HB.cell k _ (by rw [List.getElem?_toArray, List.getElem?_map, List.getElem?_eq_getElem hkl, hx]; rfl)
   obtain ⟨f1, f1n⟩ := ltVV k N
   have k0 : (0 : Int) ≤ (k : Int) := by omega
   have k1 : (k : Int) < (N : Int) := by omega
   have Hlb := h_ (islabel_c wr x (u_ Hsz x (by rw [← hx]; exact List.getElem_mem hkl)))
   obtain ⟨u, hu⟩ := exq (labelP (bs x))
   rw [hu] at Hlb
   have Hx : Hid (L[k]? = some x) := by show _ = _; rw [List.getElem?_eq_getElem hkl, hx]
   have Hu := h_ hu
   clear hx hu
   go_wp2_with fail
   refine Hlb.mono ?_
   rintro e w3 ⟨rfl, hb⟩
   have HB3 := h_ (HB.call hb)
   clear hb hc Hlb HB
   cases u with
   | false =>
    have HF : Hid (machP (bs s) = false) := by
     show _ = _
     rw [u_ HM, List.all_eq_false]
     exact ⟨x, List.mem_of_getElem? (u_ Hx), by rw [u_ Hu]; simp⟩
    clear HE
    go_wp2
    go_ret
    exact ⟨by rw [u_ HF]; rfl, HB3.b⟩
   | true =>
    have HE2 : Hid ((L.take (k + 1)).all (fun x => labelP (bs x)) = true) := by
     show _ = _
     rw [List.take_add_one, u_ Hx, List.all_append, u_ HE]
     simp [u_ Hu]
    clear HE
    go_wp2
    go_roundw
    case rel =>
     first
      | exact ⟨k + 1, by omega, by go_num, HE2, HB3⟩
      | ((repeat apply Exists.intro); exact ⟨⟨k + 1, by omega, by go_num, HE2, HB3⟩, rfl⟩)
    case measure => simp [intOf]; omega
  ·obtain ⟨f1, f1n⟩ := ltVVf k N
   have HF : Hid (machP (bs s) = true) := by
    show _ = _
    have h1 := u_ HE
    rw [List.take_of_length_le (by have := u_ HN; omega)] at h1
    rw [u_ HM, h1]
   clear HE
   go_wp2
   go_ret
   exact ⟨by rw [u_ HF]; rfl, HB.b⟩
theorem machw_c (w : World) (hR : Rdy w) (s l : ByteArray) (hs : s.size ≤ 1000000) (hl : l.size ≤ 1000000) (ha : ascP (bs s) = true) (hal : ascP (bs l) = true) :
  Calls Tryz.prog 70 #[.string s, .string l] w fun e w' => e = .returned (.bool (machW (bs s) (bs l))) ∧ Below w.heap.size w w' := by
 have H1 := h_ (small_c w hR s (by omega) ha)
 have HR := h_ hR
 obtain ⟨a, hae⟩ := exq (st (smallB (bs s)))
 obtain ⟨b, hbe⟩ := exq (st (smallB (bs l)))
 have H2 : Hid (∀ wr, Below w.heap.size w wr → Calls Tryz.prog 96 #[.string l] wr fun e w' => e = .returned (.string b) ∧ Below wr.heap.size wr w') := fun wr hb => by
  have := small_c wr (hR.below hb) l (by omega) hal
  rw [hbe] at this
  exact this
 rw [hae] at H1
 have ea : bs a = smallB (bs s) := by rw [← hae, bs_st]
 have eb : bs b = smallB (bs l) := by rw [← hbe, bs_st]
 have sa : a.size ≤ 1000000 := by rw [← bs_len, ea]; unfold smallB; rw [List.length_map, bs_len]; exact hs
 have sb : b.size ≤ 1000000 := by rw [← bs_len, eb]; unfold smallB; rw [List.length_map, bs_len]; exact hl
 have H3 : Hid (∀ wr, Below w.heap.size w wr → Calls Tryz.prog 95 #[.string a] wr fun e w' => e = .returned (.bool (machP (bs a))) ∧ Below wr.heap.size wr w') := fun wr hb => ismach_c wr (hR.below hb) a (by omega)
 obtain ⟨M, hM⟩ := exq (machP (bs a))
 obtain ⟨E, hE⟩ := exq (decide (bs b = []))
 obtain ⟨Q, hQ⟩ := exq (decide (bs a = bs b))
 obtain ⟨d, hd⟩ := exq (st (46 :: bs b))
 have hcat : ∀ W, (Op.stringOp .add { data := #[46] } b).run Tryz.prog W = .ok (.string d) W := fun W => by
  have := cat_str [46] (bs b) (46 :: bs b) rfl (by rw [bs_len]; simp; omega) W
  rw [hd, st_bs] at this
  exact this
 obtain ⟨U, hU⟩ := exq (Lib.hasSuffix (bs a) (bs d))
 have H4 : Hid (∀ wr : World, Calls Tryz.prog 98 #[.string a, .string d] wr fun e w' => e = .returned (.bool U) ∧ w' = wr) := fun wr => by
  have := Tryz.strings_HasSuffix a d wr (by omega)
  rw [show Lib.hasSuffix a.data.toList d.data.toList = U from hU] at this
  exact this
 have HT : Hid (machW (bs s) (bs l) = (M && (E || Q || U))) := by
  show _ = _
  unfold machW
  rw [← ea, ← eb, hM, hE, hQ, ← hU, ← hd, bs_st]
 rw [hM] at H3
 have he : (b.toList == ([] : Bs)) = E := by rw [nil_str]; exact hE
 have hq : (a.toList == b.toList) = Q := by rw [eql_str]; exact hQ
 clear hae hbe ea eb hM hE hQ hd hU ha hal hR hs hl
 go_enter Tryz.func70, Tryz.ntmps70
 go_wp2_with fail
 refine H1.mono ?_
 rintro e w2 ⟨rfl, hb⟩
 have HB2 := h_ hb
 clear hb H1
 go_wp2_with fail
 refine (u_ H2 w2 (u_ HB2)).mono ?_
 rintro e w3 ⟨rfl, hb⟩
 have HB3 := h_ (HB2.trans (hb.mono HB2.size))
 clear hb H2 HB2
 go_wp2_with fail
 refine (u_ H3 w3 (u_ HB3)).mono ?_
 rintro e w4 ⟨rfl, hb⟩
 have HB4 := h_ (HB3.trans (hb.mono HB3.size))
 clear hb H3 HB3
 cases M with
 | false =>
  go_wp2
  go_ret
  exact ⟨by rw [u_ HT]; rfl, u_ HB4⟩
 | true =>
  cases E with
  | true =>
   go_wp2
   go_ret
   exact ⟨by rw [u_ HT]; rfl, u_ HB4⟩
  | false =>
   cases Q with
   | true =>
    go_wp2
    go_ret
    exact ⟨by rw [u_ HT]; rfl, u_ HB4⟩
   | false =>
    go_wp2_with fail
    refine (u_ H4 w4).mono ?_
    rintro e w5 ⟨rfl, hw⟩
    obtain rfl := hw
    go_wp2
    go_ret
    exact ⟨by rw [u_ HT]; cases U <;> rfl, u_ HB4⟩
end N
def refG (dn : List (Bs × Bs) → Told DV) (g : Gen) (limit : Bool) : Bool := !decide (errOf (genV dn g limit) = 0)
namespace N
open K
theorem isref_c (dn : List (Bs × Bs) → Told DV) (w : World) (cs : List Value) (g : Gen) (limit : Bool) (hg : GenAt w cs g) (ht : g.text.length ≤ 1000000000) (hdl : g.dir.length ≤ 1000000000) (h4 : g.kind ≠ 4) :
  Calls Tryz.prog 68 #[.agg cs.toArray, .bool limit] w fun e w' => e = .returned (.bool (refG dn g limit)) ∧ Below w.heap.size w w' := by
 have HV : Hid (∀ wr, Below w.heap.size w wr → Calls Tryz.prog 31 #[.agg cs.toArray, .bool limit] wr fun e w' => ∃ ds : List Value, e = .returned (.tuple #[.agg ds.toArray, .int .i64 (errOf (genV dn g limit) : Int)]) ∧ ValAt (fun k => wr.heap.size ≤ k) w' ds (valOf (genV dn g limit)) ∧ Below wr.heap.size wr w') := fun wr hb => genv_c dn wr cs g limit (hg.below hb) ht hdl h4
 obtain ⟨s, sp, c, rfl, hst, hdn⟩ := hg.form
 obtain ⟨k, hk⟩ := exq g.kind
 obtain ⟨n, hn⟩ := exq g.dir.length
 rw [hk, hn] at HV ⊢
 obtain ⟨w1, X, hw1, eX, hA⟩ := blkN (Below.refl w.heap.size w) #[.int .i64 k, .string s, .slice sp n c] 56
 obtain ⟨k0, k1, k2⟩ := three_at hA
 have HA := h_ hA
 obtain ⟨er, her⟩ := exq (errOf (genV dn g limit))
 rw [her] at HV
 obtain ⟨U, hU⟩ := exq (decide (er = 0))
 have z1 : ((er : Int) == 0) = U := by rw [← hU]; by_cases h : er = 0 <;> simp [h] <;> omega
 have z2 : ((er : Int) != 0) = !U := by rw [← z1]; rfl
 have HT : Hid (refG dn g limit = !U) := by show _ = _; unfold refG; rw [her, hU]
 unfold gcells at HV ⊢
 clear hA hdn hst her hU hg hk hn h4
 go_enter Tryz.func68, Tryz.ntmps68
 go_wp2_with fail
 refine (u_ HV w1 HA.b).mono ?_
 rintro e w2 ⟨ds, rfl, hv, hb⟩
 have HA2 := h_ (HA.call hb)
 obtain ⟨n5, hv⟩ := hv
 obtain ⟨p1, q1, p2, q2, rfl⟩ := hv.form
 obtain ⟨vc, hvc⟩ := exq ((valOf (genV dn g limit)).cls)
 obtain ⟨vt, hvt⟩ := exq ((valOf (genV dn g limit)).tag)
 obtain ⟨vm, hvm⟩ := exq ((valOf (genV dn g limit)).made)
 obtain ⟨vl, hvl⟩ := exq ((valOf (genV dn g limit)).bytes.length)
 obtain ⟨vk, hvk⟩ := exq ((valOf (genV dn g limit)).kids.length)
 simp only [hvc, hvt, hvm, hvl, hvk]
 unfold dcells
 have HB3 := h_ ((HA2.lit (.cells #[.int .i64 vc, .int .i64 vt, .bool vm, .slice p1 vl q1, .slice p2 vk q2] 25)).b)
 obtain ⟨w3, hw3⟩ := exq (w2.alloc (.cells #[.int .i64 vc, .int .i64 vt, .bool vm, .slice p1 vl q1, .slice p2 vk q2] 25))
 rw [hw3] at HB3
 clear hv hb hvc hvt hvm hvl hvk k0 k1 k2 HV
 cases U <;> simp only [Bool.not_true, Bool.not_false] at z2 HT <;>
  (go_wp2
   go_ret
   exact ⟨by rw [u_ HT]; rfl, u_ HB3⟩)
theorem within_mach (dn : List (Bs × Bs) → Told DV) (w : World) (cs ds : List Value) (g l : Gen) (hg : GenAt w cs g) (hl : GenAt w ds l) (htg : g.text.length ≤ 1000000) (htl : l.text.length ≤ 1000000) (hdg : g.dir.length ≤ 1000000) (hdl : l.dir.length ≤ 1000000) (hkk : g.kind = l.kind) (h4 : g.kind = 2) (hr1 : refG dn g false = false) (hr2 : refG dn l true = false) (U : Bool) (hc : ∀ (wr : World) (s s2 : ByteArray), Below w.heap.size w wr → bs s = g.text → bs s2 = l.text → Calls Tryz.prog 70 #[.string s, .string s2] wr fun e w' => e = .returned (.bool U) ∧ Below wr.heap.size wr w') :
  Calls Tryz.prog 34 #[.agg cs.toArray, .agg ds.toArray] w fun e w' => e = .returned (.bool U) ∧ Below w.heap.size w w' := by
 have HG : Hid (∀ wr, Below w.heap.size w wr → GenAt wr cs g) := fun wr hb => hg.below hb
 have HL : Hid (∀ wr, Below w.heap.size w wr → GenAt wr ds l) := fun wr hb => hl.below hb
 obtain ⟨s, sp, c, rfl, hst, hdn⟩ := hg.form
 obtain ⟨s2, sp2, c2, rfl, hst2, hdn2⟩ := hl.form
 obtain ⟨k, hk⟩ := exq g.kind
 obtain ⟨n, hn⟩ := exq g.dir.length
 obtain ⟨k', hk'⟩ : ∃ k, l.kind = k := ⟨_, rfl⟩
 obtain ⟨n', hn'⟩ : ∃ n, l.dir.length = n := ⟨_, rfl⟩
 rw [hk, hn] at HG ⊢
 rw [hk', hn'] at HL ⊢
 have hkk2 : k = k' := by rw [← hk, ← hk']; exact hkk
 subst hkk2
 obtain rfl : k = 2 := hk.symm.trans h4
 have HRf : Hid (∀ wr, Below w.heap.size w wr → Calls Tryz.prog 68 #[.agg #[.int .i64 2, .string s, .slice sp n c], .bool false] wr fun e w' => e = .returned (.bool false) ∧ Below wr.heap.size wr w') := fun wr hb => by
  have := isref_c dn wr _ g false (u_ HG wr hb) (by omega) (by omega) (by rw [h4]; decide)
  rw [hr1] at this
  exact this
 have HRl : Hid (∀ wr, Below w.heap.size w wr → Calls Tryz.prog 68 #[.agg #[.int .i64 2, .string s2, .slice sp2 n' c2], .bool true] wr fun e w' => e = .returned (.bool false) ∧ Below wr.heap.size wr w') := fun wr hb => by
  have := isref_c dn wr _ l true (u_ HL wr hb) (by omega) (by omega) (by rw [← hkk, h4]; decide)
  rw [hr2] at this
  exact this
 obtain ⟨w1, X, hw1, eX, hA⟩ := blkN (Below.refl w.heap.size w) #[.int .i64 2, .string s, .slice sp n c] 56
 have hY := Blk.new hA.b #[.int .i64 2, .string s2, .slice sp2 n' c2] 56
 have hA1 := hA.lit (.cells #[.int .i64 2, .string s2, .slice sp2 n' c2] 56)
 obtain ⟨w2, hw2⟩ := exq (w1.alloc (.cells #[.int .i64 2, .string s2, .slice sp2 n' c2] 56))
 obtain ⟨Y, eY⟩ := exq w1.heap.size
 rw [hw2, eY] at hY
 rw [hw2] at hA1
 obtain ⟨k0, k1, k2⟩ := three_at hA1
 obtain ⟨j0, j1, j2⟩ := three_at hY
 have HA := h_ hA1
 have HY := h_ hY
 unfold gcells
 have HC : Hid (∀ wr, Below w.heap.size w wr → Calls Tryz.prog 70 #[.string s, .string s2] wr fun e w' => e = .returned (.bool U) ∧ Below wr.heap.size wr w') := fun wr hb => hc wr s s2 hb hst hst2
 clear hA hA1 hY hdn hdn2 hst hst2 hg hl hk hk' hn hn' hkk h4 HG HL hr1 hr2 hc
 go_enter Tryz.func34, Tryz.ntmps34
 go_wp2_with fail
 refine (u_ HRf w2 HA.b).mono ?_
 rintro e w3 ⟨rfl, hb⟩
 have HA3 := h_ (HA.call hb)
 have HY3 := h_ (HY.call hb)
 clear hb k0 k1 k2 j0 j1 j2 HA HY hw1 hw2 eY
 obtain ⟨k0, k1, k2⟩ := three_at (u_ HA3)
 obtain ⟨j0, j1, j2⟩ := three_at (u_ HY3)
 go_wp2_with fail
 refine (u_ HRl w3 HA3.b).mono ?_
 rintro e w4 ⟨rfl, hb⟩
 have HA4 := h_ (HA3.call hb)
 have HY4 := h_ (HY3.call hb)
 clear hb k0 k1 k2 j0 j1 j2 HA3 HY3
 obtain ⟨k0, k1, k2⟩ := three_at (u_ HA4)
 obtain ⟨j0, j1, j2⟩ := three_at (u_ HY4)
 go_wp2_with fail
 refine (u_ HC w4 HA4.b).mono ?_
 rintro e w5 ⟨rfl, hb⟩
 have HA5 := h_ (HA4.call hb)
 clear hb k0 k1 k2 j0 j1 j2 HA4 HY4
 go_wp2
 go_ret
 exact ⟨rfl, HA5.b⟩
end N
open Go.Lib (decDigits)
theorem ex_oid : oidT (.mk 0 6 false [42, 134, 72] []) = some [49, 46, 50, 46, 56, 52, 48] := by
 have h1 : rightV (.mk 0 6 false [42, 134, 72] []) = true := by decide +kernel
 have h2 : oidG [42, 134, 72] = some [42, 840] := by decide +kernel
 unfold oidT
 rw [if_pos ⟨rfl, rfl, h1⟩]
 simp only [DV.bytes]
 rw [h2]
 have d1 : decDigits 1 = [49] := Lib.decDigits_one (by omega)
 have d2 : decDigits 2 = [50] := Lib.decDigits_one (by omega)
 have d84 : decDigits 84 = [56, 52] := Lib.decDigits_two (by omega) (by omega)
 have d840 : decDigits 840 = [56, 52, 48] := by
  rw [Lib.decDigits, dif_neg (by omega)]
  show decDigits 84 ++ [UInt8.ofNat 48] = _
  rw [d84]
  rfl
 show some (decDigits 1 ++ 46 :: decDigits 2 ++ restT [840]) = _
 unfold restT
 simp [d1, d2, d840]
theorem ex_time : timeT (.mk 0 23 false [52, 57, 49, 50, 51, 49, 50, 51, 53, 57, 53, 57, 90] []) = (2524607999, 0) := by decide +kernel
theorem ex_mach : machW [97, 46, 66, 46, 101, 120, 97, 109, 112, 108, 101] [98, 46, 101, 120, 97, 109, 112, 108, 101] = true := by decide +kernel
def noDn : List (Bs × Bs) → Told DV := fun _ => .no 30
theorem ex_ref1 : refG noDn ⟨2, [97, 46, 66, 46, 101, 120, 97, 109, 112, 108, 101], []⟩ false = false := by decide +kernel
theorem ex_ref2 : refG noDn ⟨2, [98, 46, 101, 120, 97, 109, 112, 108, 101], []⟩ true = false := by decide +kernel
namespace N
open K
theorem leaf_new (w : World) (c t : Int) (l : Bs) (hl : l.length ≤ 9223372036854775807) : ValAt (fun k => w.heap.size ≤ k) (w.alloc (.cells (l.map bv).toArray 5)) [.int .i64 c, .int .i64 t, .bool false, .slice (some ⟨w.heap.size, 0, none⟩) l.length l.length, .slice none 0 0] (.mk c t false l []) := by
 refine ⟨1, _, none, 0, rfl, bytes_new w l, fun _ k hk => ?_, ?_, ?_, fun _ => rfl, fun h => absurd rfl h⟩
 ·simp [Value.ownBlock] at hk; omega
 ·exact ⟨by simpa [DV.bytes] using hl, by simp [DV.kids]⟩
 ·simp [DV.kids]
theorem gen_lit (w : World) (k : Int) (s : ByteArray) : GenAt w (gcells k s (.slice none 0 0)) ⟨k, bs s, []⟩ := ⟨s, none, 0, rfl, rfl, dn_nil w⟩
theorem bytes_mark (w : World) (l : Bs) (fr : Nat × Nat) : BytesAt (w.alloc (.cells (l.map bv).toArray 5 fr)) (.slice (some ⟨w.heap.size, 0, none⟩) l.length l.length) l := by
 refine ⟨_, _, by rw [List.length_map], by rw [List.length_map]; exact Nat.le_refl _, fun e => (by cases e), fun _ => ⟨w.heap.size, 0, rfl, fun j v hv => ?_⟩⟩
 have h1 := World.cell?_alloc_mark w (l.map bv).toArray 5 fr j
 rw [Nat.zero_add, h1, List.getElem?_toArray]
 exact hv
theorem leaf_mark (w : World) (c t : Int) (l : Bs) (fr : Nat × Nat) (hl : l.length ≤ 9223372036854775807) : ValAt (fun k => w.heap.size ≤ k) (w.alloc (.cells (l.map bv).toArray 5 fr)) [.int .i64 c, .int .i64 t, .bool false, .slice (some ⟨w.heap.size, 0, none⟩) l.length l.length, .slice none 0 0] (.mk c t false l []) := by
 refine ⟨1, _, none, 0, rfl, bytes_mark w l fr, fun _ k hk => ?_, ?_, ?_, fun _ => rfl, fun h => absurd rfl h⟩
 ·simp [Value.ownBlock] at hk; omega
 ·exact ⟨by simpa [DV.bytes] using hl, by simp [DV.kids]⟩
 ·simp [DV.kids]
theorem anchor_c (w0 : World) (hR : Rdy w0) : Calls Tryz.prog 9 #[] w0 fun e w' => e = .returned (.bool true) ∧ Below w0.heap.size w0 w' := by
 obtain ⟨w1, hw1⟩ := exq (w0.alloc (.cells #[.int .u8 42, .int .u8 134, .int .u8 72] 5))
 have hb1 := allocB hw1
 have hx1 : ValAt (fun k => w0.heap.size ≤ k) w1 [.int .i64 0, .int .i64 6, .bool false, .slice (some ⟨w0.heap.size, 0, none⟩) 3 3, .slice none 0 0] (.mk 0 6 false [42, 134, 72] []) := by rw [← hw1]; exact leaf_new w0 0 6 [42, 134, 72] (by decide)
 have Hc1 := h_ (oid_c w1 _ _ _ (hR.below hb1) hx1 (by decide))
 rw [ex_oid] at Hc1
 simp only [Option.getD_some, Option.isSome_some] at Hc1
 have HR := h_ hR
 have Hb1 := h_ hb1
 clear hR hx1 hb1
 go_enter Tryz.func9, Tryz.ntmps9
 go_wp2_with fail
 refine Hc1.mono ?_
 rintro e w2 ⟨rfl, hb⟩
 have Hb2 := h_ (Hb1.trans (hb.mono Hb1.size))
 clear hb hw1 Hc1 Hb1
 obtain ⟨w3a, hw3a⟩ := exq (w2.alloc (.cells #[.int .u8 52, .int .u8 57, .int .u8 49, .int .u8 50, .int .u8 51, .int .u8 49, .int .u8 50, .int .u8 51, .int .u8 53, .int .u8 57, .int .u8 53, .int .u8 57, .int .u8 90] 5))
 obtain ⟨w3, hw3⟩ := exq (w2.alloc (.cells #[.int .u8 52, .int .u8 57, .int .u8 49, .int .u8 50, .int .u8 51, .int .u8 49, .int .u8 50, .int .u8 51, .int .u8 53, .int .u8 57, .int .u8 53, .int .u8 57, .int .u8 90] 5 (13, 14)))
 have hcv : (convert 22 22 (.slice (some ⟨w2.heap.size, 0, none⟩) 13 13)).run Tryz.prog w3a = .ok (.slice (some ⟨w2.heap.size, 0, none⟩) 13 13) w3 := by
  rw [← hw3a, ← hw3]
  exact Lib.run_convert_bytes_const w2 22 5 #[.int .u8 52, .int .u8 57, .int .u8 49, .int .u8 50, .int .u8 51, .int .u8 49, .int .u8 50, .int .u8 51, .int .u8 53, .int .u8 57, .int .u8 53, .int .u8 57, .int .u8 90] 13 13 Tryz.underlying22 Tryz.underlying5
 have hb3 := allocB hw3
 have hx3 : ValAt (fun k => w2.heap.size ≤ k) w3 [.int .i64 0, .int .i64 23, .bool false, .slice (some ⟨w2.heap.size, 0, none⟩) 13 13, .slice none 0 0] (.mk 0 23 false [52, 57, 49, 50, 51, 49, 50, 51, 53, 57, 53, 57, 90] []) := by rw [← hw3]; exact leaf_mark w2 0 23 [52, 57, 49, 50, 51, 49, 50, 51, 53, 57, 53, 57, 90] (13, 14) (by decide)
 have Hb3 := h_ (Hb2.trans (hb3.mono Hb2.size))
 have Hc3 := h_ (time_c w3 _ _ _ (HR.below (u_ Hb3)).tabs hx3 (by decide))
 rw [ex_time] at Hc3
 clear hx3 hb3 Hb2 hw3
 go_wp2_with fail
 refine Hc3.mono ?_
 rintro e w4 ⟨rfl, hb⟩
 have Hb4 := h_ (Hb3.trans (hb.mono Hb3.size))
 clear hb hw3a hcv Hc3 Hb3
 have Hwi := h_ (within_mach noDn w4 _ _ _ _ (gen_lit w4 2 ⟨#[97, 46, 66, 46, 101, 120, 97, 109, 112, 108, 101]⟩) (gen_lit w4 2 ⟨#[98, 46, 101, 120, 97, 109, 112, 108, 101]⟩) (by decide) (by decide) (by decide) (by decide) rfl rfl ex_ref1 ex_ref2 true (fun wr s s2 hb h1 h2 => by
  have h1' : bs s = [97, 46, 66, 46, 101, 120, 97, 109, 112, 108, 101] := h1
  have h2' : bs s2 = [98, 46, 101, 120, 97, 109, 112, 108, 101] := h2
  have h := machw_c wr (HR.below (Hb4.trans (hb.mono Hb4.size))) s s2 (by rw [← bs_len, h1']; decide) (by rw [← bs_len, h2']; decide) (by rw [h1']; decide) (by rw [h2']; decide)
  rw [h1', h2', ex_mach] at h
  exact h))
 unfold gcells at Hwi
 go_wp2_with fail
 refine Hwi.mono ?_
 rintro e w5 ⟨rfl, hb⟩
 have Hb5 := h_ (Hb4.trans (hb.mono Hb4.size))
 clear hb Hwi Hb4
 go_wp2
 go_ret
 exact ⟨rfl, u_ Hb5⟩
end N
end Go.Proofs.YtcofnockikninaaGreatDoor
