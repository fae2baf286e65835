/- Parts of the walk. -/
import Derived.Test.YtcofnockikninaaGreatDoorZgMA
import Derived.Test.YtcofnockikninaaGreatDoorZgNf
import Derived.Lib.Bytealg
import Derived.Deep.RegionWith
set_option maxRecDepth 100000
set_option maxHeartbeats 40000000
namespace Go.Proofs.YtcofnockikninaaGreatDoor
open Go.RowKit
namespace K
theorem or32 : ∀ (c : Fin 4) (t : Fin 32), bits .or .u8 ((64 * c.val + t.val : Nat) : Int) 32 = ((64 * c.val + 32 + t.val : Nat) : Int) := by decide +kernel
theorem ownb_one (w : World) (z : Nat) (β : UInt8) (h : β.toNat = z) : OwnB (w.alloc (.cells #[.int .u8 (z : Int)] 5)) w.heap.size (.slice (some ⟨w.heap.size, 0, none⟩) 1 1) [β] := by
 subst h
 exact ⟨rfl, Or.inr ⟨w.heap.size, 1, _, rfl, Nat.le_refl _, heap_alloc_new w _, Nat.le_refl _, by simp [maxLen], rfl, rfl⟩⟩
def firstN (c t : Nat) (m : Bool) : Nat := 64 * c + (if m then 32 else 0) + min t 31
theorem tagB_short {c t : Nat} {m : Bool} (h : t < 31) : tagB c t m = [UInt8.ofNat (firstN c t m)] := by
 unfold tagB firstN
 rw [if_pos h, Nat.min_eq_left (by omega)]
theorem tagB_long {c t : Nat} {m : Bool} (h : ¬ t < 31) : tagB c t m = [UInt8.ofNat (firstN c t m)] ++ tgs t := by
 unfold tagB firstN tgs tgTo
 rw [if_neg h, Nat.min_eq_right (by omega)]
 simp
theorem head_c (c t n : Nat) (m : Bool) (s1 s2 : Option Addr) (n1 c1 n2 c2 : Nat) (w : World) (hc : c ≤ 3) (ht : t < 2097152) (hn : n < 16777216) :
  GivesB w 126 #[.agg #[.int .i64 (c : Int), .int .i64 (t : Int), .bool m, .slice s1 n1 c1, .slice s2 n2 c2], .int .i64 (n : Int)] (tagB c t m ++ lenB n) := by
 unfold GivesB
 obtain ⟨w1, A, hw1, eA, hA⟩ := blkN (Below.refl w.heap.size w) #[.int .i64 (c : Int), .int .i64 (t : Int), .bool m, .slice s1 n1 c1, .slice s2 n2 c2] 25
 have k0 := hA.cell 0 _ rfl
 have k1 := hA.cell 1 _ rfl
 have k2 := hA.cell 2 _ rfl
 obtain ⟨C6, hC6⟩ := exq (c * 64)
 have eC6 : (c : Int) * 64 = (C6 : Int) := by omega
 have uC6 : IntKind.i64.wrap (C6 : Int) = (C6 : Int) := IntWalk.i64_in _ (by omega)
 obtain ⟨T, hT⟩ := exq (min t 31)
 obtain ⟨F, hF⟩ := exq (64 * c + T)
 have hTb : T ≤ 31 := by rw [← hT]; exact Nat.min_le_right _ _
 have hor : bits .or .i64 (C6 : Int) (T : Int) = (F : Int) := by
  rw [or_i64 C6 T (by omega) (by omega), ← hC6, show c * 64 = c * 2 ^ 6 from rfl, or_add c T 6 (by omega)]
  omega
 have uF : IntKind.u8.wrap (F : Int) = (F : Int) := by rw [IntKind.wrap_u8']; omega
 obtain ⟨G, hG⟩ := exq (firstN c t m)
 have hGb : G < 256 := by rw [← hG]; unfold firstN; rw [hT]; split <;> omega
 have hor32 : m = true → bits .or .u8 (F : Int) 32 = (G : Int) := fun hm => by
  have h1 := or32 ⟨c, by omega⟩ ⟨T, by omega⟩
  simp only [hF] at h1
  rw [h1, ← hG]
  unfold firstN
  rw [hT, if_pos hm]
 have hGF : m = false → G = F := fun hm => by rw [← hG]; unfold firstN; rw [hT, if_neg (by rw [hm]; simp)]; omega
 -- the row of the first byte
 have hA2 := hA.lit (.cells #[.int .u8 (G : Int)] 5)
 have HO := h_ (ownb_one w1 G (UInt8.ofNat G) (by rw [byte_let]; omega))
 have Hb12 : Hid (Below w1.heap.size w1 (w1.alloc (.cells #[.int .u8 (G : Int)] 5))) := (Below.refl _ _).alloc (Nat.le_refl _) _
 have HR : Hid (Row w1 (w1.alloc (.cells #[.int .u8 (G : Int)] 5)) (.slice (some ⟨w1.heap.size, 0, none⟩) 1 1) [UInt8.ofNat G]) := ⟨u_ HO, u_ Hb12⟩
 obtain ⟨w2, hw2⟩ := exq (w1.alloc (.cells #[.int .u8 (G : Int)] 5))
 rw [hw2] at hA2 HR
 have j1 := hA2.cell 1 _ rfl
 have HA := h_ hA
 have HA2 := h_ hA2
 obtain ⟨B, eB⟩ := exq w1.heap.size
 rw [eB] at HR
 have HB := h_ eB
 clear hA hA2 hC6 HO Hb12 hF
 have hmin : min (t : Int) 31 = (T : Int) := by rw [← hT]; omega
 by_cases h31 : t < 31
 ·have HT : Hid (tagB c t m = [UInt8.ofNat G]) := by show _ = _; rw [tagB_short h31, hG]
  obtain ⟨d1, d1n⟩ := leLVf 31 31 t
  have Hp := h_ (plen_c w1 w2 _ _ n (u_ HR) (by simp) hn)
  clear hT h31 hG
  cases m with
  | false =>
   have hgf := hGF rfl
   have hw2' : w1.alloc (.cells #[.int .u8 (F : Int)] 5) = w2 := by rw [← hgf]; exact hw2
   clear hGF hor32 hgf hw2
   go_enter Tryz.func126, Tryz.ntmps126
   go_wp2_with fail
   refine Hp.mono ?_
   rintro e w3 ⟨v3, rfl, hR3⟩
   have HR4 := h_ hR3
   clear hR3 Hp
   go_wp2
   go_ret
   exact ⟨_, rfl, by rw [u_ HT]; exact HR4.up HA.b⟩
  | true =>
   have ho := hor32 rfl
   clear hGF hor32
   go_enter Tryz.func126, Tryz.ntmps126
   go_wp2_with fail
   refine Hp.mono ?_
   rintro e w3 ⟨v3, rfl, hR3⟩
   have HR4 := h_ hR3
   clear hR3 Hp
   go_wp2
   go_ret
   exact ⟨_, rfl, by rw [u_ HT]; exact HR4.up HA.b⟩
 ·have HT : Hid (tagB c t m = [UInt8.ofNat G] ++ tgs t) := by show _ = _; rw [tagB_long h31, hG]
  obtain ⟨d1, d1n⟩ := leLV 31 31 t
  have Hp := h_ (ptag_c w1 w2 _ _ t (u_ HR) (by simp) ht)
  have Hq : Hid (∀ (w3 : World) (v3 : Value), Row w1 w3 v3 ([UInt8.ofNat G] ++ tgs t) → Calls Tryz.prog 157 #[v3, .int .i64 (n : Int)] w3 fun e w' => ∃ v', e = .returned v' ∧ Row w1 w' v' ([UInt8.ofNat G] ++ tgs t ++ lenB n)) := fun w3 v3 h => plen_c w1 w3 v3 _ n h (by
   have := tg_le 0 t
   unfold tgs
   simp only [List.length_append, List.length_singleton]
   omega) hn
  clear hT hG h31
  cases m with
  | false =>
   have hgf := hGF rfl
   have hw2' : w1.alloc (.cells #[.int .u8 (F : Int)] 5) = w2 := by rw [← hgf]; exact hw2
   clear hGF hor32 hgf hw2
   go_enter Tryz.func126, Tryz.ntmps126
   go_wp2_with fail
   refine Hp.mono ?_
   rintro e w3 ⟨v3, rfl, hR3⟩
   have Hc3 := h_ (u_ Hq w3 v3 hR3)
   clear hR3 Hp
   go_wp2_with fail
   refine Hc3.mono ?_
   rintro e w4 ⟨v4, rfl, hR4⟩
   have HR4 := h_ hR4
   clear hR4 Hc3
   go_wp2
   go_ret
   exact ⟨_, rfl, by rw [u_ HT]; exact HR4.up HA.b⟩
  | true =>
   have ho := hor32 rfl
   clear hGF hor32
   go_enter Tryz.func126, Tryz.ntmps126
   go_wp2_with fail
   refine Hp.mono ?_
   rintro e w3 ⟨v3, rfl, hR3⟩
   have Hc3 := h_ (u_ Hq w3 v3 hR3)
   clear hR3 Hp
   go_wp2_with fail
   refine Hc3.mono ?_
   rintro e w4 ⟨v4, rfl, hR4⟩
   have HR4 := h_ hR4
   clear hR4 Hc3
   go_wp2
   go_ret
   exact ⟨_, rfl, by rw [u_ HT]; exact HR4.up HA.b⟩
end K
namespace K
def Body (v : DV) (W : Bs) (N : Nat) (X : Bs) : Prop := W = tagB v.cls.toNat v.tag.toNat v.made ++ lenB N ++ X ∧ X.length = N
theorem all_get {g : DV → Told Bs} : ∀ {ks : List DV} {bs : List Bs}, allP g ks = .yes bs → bs.length = ks.length ∧ ∀ (i : Nat) (k : DV), ks[i]? = some k → ∃ x, bs[i]? = some x ∧ g k = .yes x
 | [], bs, h => by
  unfold allP at h
  cases h
  exact ⟨rfl, fun i k hk => by simp at hk⟩
 | v :: l, bs, h => by
  unfold allP at h
  split at h
  ·cases h
  ·rename_i b hb
   split at h
   ·cases h
   ·rename_i bs' hbs
    cases h
    obtain ⟨h1, h2⟩ := all_get hbs
    refine ⟨by simp [h1], fun i k hk => ?_⟩
    match i, hk with
    | 0, hk => simp at hk; subst hk; exact ⟨b, rfl, hb⟩
    | i + 1, hk => exact h2 i k (by simpa using hk)
theorem flat_take {bs : List Bs} {i : Nat} {x : Bs} (h : bs[i]? = some x) : (bs.take (i + 1)).flatten.length = (bs.take i).flatten.length + x.length := by
 rw [List.take_add_one, h, List.flatten_append, List.length_append]
 simp
def InnerC (n : Nat) : Prop := ∀ (f : Nat) (S : Nat → Prop) (v : DV) (w : World) (cs : List Value) (W : Bs), VAt n S w cs v → weight v ≤ 1000000 → writeP formD f v = .yes W → Calls Tryz.prog 125 #[.agg cs.toArray] w fun e w' => ∃ (N : Nat) (X : Bs), e = .returned (.int .i64 (N : Int)) ∧ Body v W N X ∧ N ≤ 9000000 ∧ Below w.heap.size w w'
def SizeC (n : Nat) : Prop := ∀ (f : Nat) (S : Nat → Prop) (v : DV) (w : World) (cs : List Value) (W : Bs), VAt n S w cs v → weight v ≤ 1000000 → writeP formD f v = .yes W → Calls Tryz.prog 103 #[.agg cs.toArray] w fun e w' => e = .returned (.int .i64 (W.length : Int)) ∧ Below w.heap.size w w'
theorem right_nums {f : Nat} {v : DV} {W : Bs} (h : writeP formD f v = .yes W) : ∃ c t : Nat, v.cls = (c : Int) ∧ v.tag = (t : Int) ∧ c ≤ 3 ∧ t < 2097152 := by
 cases f with
 | zero => simp [writeP] at h
 | succ f =>
  obtain ⟨c, t, m, b, ks⟩ := v
  obtain ⟨h1, h2, h3, h4, _⟩ := write_open h
  exact ⟨c.toNat, t.toNat, by show c = _; omega, by show t = _; omega, by omega, by omega⟩
theorem size_step (n : Nat) (hin : InnerC n) : SizeC n := fun f S v w cs W hv hw hW => by
 obtain ⟨c, t, hc, ht, hc3, ht2⟩ := right_nums hW
 obtain ⟨s1, c1, s2, c2, hcs⟩ := hv.form
 have hout := out_le f v W hw hW
 obtain ⟨L, hL⟩ := exq v.bytes.length
 obtain ⟨K, hK⟩ := exq v.kids.length
 obtain ⟨m, hm⟩ := exq v.made
 rw [hc, ht, hm, hL, hK] at hcs
 subst hcs
 have hb : ∀ N X, Body v W N X → W = tagB c t m ++ lenB N ++ X ∧ X.length = N := fun N X h => by
  unfold Body at h
  rw [hc, ht, hm] at h
  exact h
 have HB := h_ hb
 unfold dcells
 obtain ⟨w1, A, hw1, eA, hA⟩ := blkN (Below.refl w.heap.size w) #[.int .i64 (c : Int), .int .i64 (t : Int), .bool m, .slice s1 L c1, .slice s2 K c2] 25
 have Hin := h_ (hin f S v w1 _ W (hv.below hA.b) hw hW)
 unfold dcells at Hin
 have k0 := hA.cell 0 _ rfl
 have k1 := hA.cell 1 _ rfl
 have k2 := hA.cell 2 _ rfl
 have k3 := hA.cell 3 _ rfl
 have k4 := hA.cell 4 _ rfl
 have HA := h_ hA
 have Hout := h_ hout
 obtain ⟨WL, hWL⟩ := exq W.length
 rw [hWL]
 have HWL := h_ hWL
 clear hA hv hW hout hb hL hK hm hc ht hWL
 go_enter Tryz.func103, Tryz.ntmps103
 go_wp2_with fail
 refine Hin.mono ?_
 rintro e w2 ⟨N, X, rfl, hbody, hN, hb2⟩
 have hA2 := HA.call hb2
 have j0 := hA2.cell 0 _ rfl
 have j1 := hA2.cell 1 _ rfl
 have j2 := hA2.cell 2 _ rfl
 have j3 := hA2.cell 3 _ rfl
 have j4 := hA2.cell 4 _ rfl
 have Hh := h_ (head_c c t N m s1 s2 L c1 K c2 w2 hc3 ht2 (by omega))
 unfold GivesB at Hh
 obtain ⟨hWe, hX⟩ := u_ HB N X hbody
 obtain ⟨HL, hHL⟩ := exq ((tagB c t m ++ lenB N).length)
 have hsum : HL + N = W.length := by rw [hWe, List.length_append, hHL, hX]
 have hwl : W.length ≤ 9000000 := by have := u_ Hout; omega
 have HHL := h_ hHL
 have Hsum := h_ hsum
 have HA2 := h_ hA2
 have hWL := u_ HWL
 have eS : (HL : Int) + (N : Int) = (WL : Int) := by omega
 have uS : IntKind.i64.wrap (WL : Int) = (WL : Int) := IntWalk.i64_in _ (by omega)
 clear hA2 hb2 hbody hWe hX hHL hsum hwl Hin k0 k1 k2 k3 k4 hWL
 go_wp2_with fail
 refine Hh.mono ?_
 rintro e w3 ⟨v3, rfl, hR3⟩
 obtain ⟨s3, c3, hv3⟩ := hR3.own.form
 rw [u_ HHL] at hv3
 subst hv3
 have HR3 := h_ hR3
 clear hR3 Hh
 go_wp2
 go_ret
 exact ⟨rfl, HA2.b.trans (HR3.b.mono HA2.b.size)⟩
theorem kid_at {n : Nat} {S : Nat → Prop} {w : World} {c t : Int} {md : Bool} {bs : Bs} {ks : List DV} {xb : Value} {sk : Option Addr} {ck : Nat} (hv : VAt (n + 1) S w (dcells c t md xb (.slice sk ks.length ck)) (.mk c t md bs ks)) (i : Nat) (k : DV) (hk : ks[i]? = some k) :
  ∃ (ba oa : Nat) (ds : List Value), sk = some ⟨ba, oa, none⟩ ∧ CellsAt w ba (oa + i * 5) ds ∧ VAt n S w ds k := by
 obtain ⟨xb', sk', ck', e, _, _, _, _, _, h5⟩ := hv
 simp only [dcells, DV.cls, DV.tag, DV.made, DV.kids, List.cons.injEq, Value.slice.injEq, and_true, true_and] at e
 obtain ⟨_, rfl, rfl⟩ := e
 obtain ⟨b, o, rfl, _, hi⟩ := h5 (fun e => by rw [show ks = [] from e] at hk; simp at hk)
 obtain ⟨ds, h1, h2⟩ := hi i k hk
 exact ⟨b, o, ds, rfl, h1, h2⟩
theorem inner_step (n : Nat) (hsz : SizeC n) : InnerC (n + 1) := fun f S v w cs W hv hw hW => by
 obtain ⟨c, t, md, bs, ks⟩ := v
 cases f with
 | zero => simp [writeP] at hW
 | succ f =>
 obtain ⟨_, _, _, _, _, _, _, xs, hxs, _, hWe⟩ := write_open hW
 obtain ⟨hxl, hxg⟩ := all_get hxs
 have hout := outs_le f ks xs (by simp only [weight] at hw; omega) hxs
 obtain ⟨xb, sk, ck, hcs, _⟩ : ∃ xb sk ck, cs = dcells c t md xb (.slice sk ks.length ck) ∧ BytesAt w xb bs := by
  obtain ⟨xb, sk, ck, e, h1, _⟩ := hv
  exact ⟨xb, sk, ck, e, h1⟩
 obtain ⟨s1, c1, s2, c2, hf⟩ := hv.form
 rw [hcs] at hf
 simp only [dcells, DV.cls, DV.tag, DV.made, DV.bytes, DV.kids, List.cons.injEq, Value.slice.injEq, and_true, true_and] at hf
 obtain ⟨rfl, rfl, rfl⟩ := hf
 subst hcs
 have hwt : bs.length ≤ 1000000 ∧ weights ks ≤ 1000000 ∧ bs.length + weights ks ≤ 1000000 := by simp only [weight] at hw; omega
 have hkl := weights_len ks
 have HK : Hid (∀ (i : Nat) (wr : World), i < ks.length → Below w.heap.size w wr → ∃ (k : DV) (ba oa : Nat) (ds : List Value) (x : Bs), sk = some ⟨ba, oa, none⟩ ∧ xs[i]? = some x ∧ CellsAt wr ba (oa + i * 5) ds ∧ VAt n S wr ds k ∧ weight k ≤ 1000000 ∧ writeP formD f k = .yes x) := fun i wr hi hb => by
  have hik : ks[i]? = some ks[i] := List.getElem?_eq_getElem hi
  obtain ⟨ba, oa, ds, e1, h1, h2⟩ := kid_at hv i _ hik
  obtain ⟨x, hx, hg⟩ := hxg i _ hik
  have := weight_kid hik
  exact ⟨_, ba, oa, ds, x, e1, hx, h1.below hb, h2.below hb, by omega, hg⟩
 have HBody : Hid (Body (.mk c t md bs ks) W (bs.length + xs.flatten.length) (bs ++ xs.flatten)) := by
  refine ⟨?_, by rw [List.length_append]⟩
  rw [hWe, List.length_append]
  rfl
 have Hle : Hid (∀ i, (xs.take i).flatten.length ≤ xs.flatten.length) := fun i => by
  have h1 : xs.flatten.length = (xs.take i).flatten.length + (xs.drop i).flatten.length := by
   rw [← List.length_append, ← List.flatten_append, List.take_append_drop]
  omega
 have Hxl := h_ hxl
 unfold dcells
 obtain ⟨L, hL⟩ := exq bs.length
 obtain ⟨K, hK⟩ := exq ks.length
 obtain ⟨XL, hXL⟩ := exq xs.flatten.length
 rw [hL, hXL] at HBody
 rw [hXL] at Hle hout
 rw [hK] at HK hkl Hxl
 rw [hL, hK]
 rw [hL] at hwt
 have hXLb : XL ≤ 9 * (1000000 - L) := by omega
 obtain ⟨w1, A, hw1, eA, hA⟩ := blkN (Below.refl w.heap.size w) #[.int .i64 c, .int .i64 t, .bool md, .slice s1 L c1, .slice sk K ck] 25
 have k3 := hA.cell 3 _ rfl
 have k4 := hA.cell 4 _ rfl
 have HA := h_ hA
 have HXL := h_ hXL
 have Hsz := h_ hsz
 clear hA hv hW hout hWe hxs hxg hxl hw hL hK hXL hsz
 go_enter Tryz.func125, Tryz.ntmps125
 go_wp2
 go_loopw [3, 12] (fun nn ii wr => ∃ (i N : Nat), i ≤ K ∧ nn = .int .i64 (N : Int) ∧ ii = .int .i64 (i : Int) ∧ N ≤ 9000000 ∧ Hid (N = L + (xs.take i).flatten.length) ∧ Hid (Below w.heap.size w wr)) (fun _ ii _ => K - (intOf ii).toNat)
 case atStart => exact ⟨0, L, by omega, rfl, rfl, by omega, by show L = _; simp, HA.b⟩
 case round =>
  obtain ⟨i, N, hi, rfl, rfl, hN, HN, HB⟩ := hrel
  clear k3 k4
  by_cases hlt : i < K
  ·obtain ⟨k, ba, oa, ds, x, rfl, hx, g1, v1, hkw, hkx⟩ := u_ HK i wr hlt (u_ HB)
   obtain ⟨p1, q1, p2, q2, rfl⟩ := v1.form
   obtain ⟨x0, x1, x2, x3, x4⟩ := g1.five
   have hN2 : N + x.length = L + (xs.take (i + 1)).flatten.length := by rw [flat_take hx, u_ HN]; omega
   have hle2 := u_ Hle (i + 1)
   obtain ⟨xl, hxl⟩ := exq x.length
   obtain ⟨N2, hN2e⟩ := exq (N + xl)
   have HN2 : Hid (N2 = L + (xs.take (i + 1)).flatten.length) := by show _ = _; omega
   have eN2 : (N : Int) + (xl : Int) = (N2 : Int) := by omega
   have hN2b : N2 ≤ 9000000 := by omega
   have uN2 : IntKind.i64.wrap (N2 : Int) = (N2 : Int) := IntWalk.i64_in _ (by omega)
   obtain ⟨d1, d1n⟩ := ltVV i K
   have i0 : (0 : Int) ≤ (i : Int) := by omega
   have i1 : (i : Int) < (K : Int) := by omega
   obtain ⟨kc, kt, km, kl, kk, hkc, hkt, hkm, hkl3, hkk⟩ := ex5 k
   simp only [hkc, hkt, hkm, hkl3, hkk] at x0 x1 x2 x3 x4 v1
   have hC := Blk.new (u_ HB) #[.int .i64 kc, .int .i64 kt, .bool km, .slice p1 kl q1, .slice p2 kk q2] 25
   obtain ⟨w5, hw5⟩ := exq (wr.alloc (.cells #[.int .i64 kc, .int .i64 kt, .bool km, .slice p1 kl q1, .slice p2 kk q2] 25))
   obtain ⟨C, eC⟩ := exq wr.heap.size
   have hb5 := allocB hw5
   have Hc := h_ (u_ Hsz f S k w5 _ x (v1.below hb5) hkw hkx)
   rw [hxl] at Hc
   unfold dcells at Hc
   rw [hw5, eC] at hC
   have y0 := hC.cell 0 _ rfl
   have y1 := hC.cell 1 _ rfl
   have y2 := hC.cell 2 _ rfl
   have y3 := hC.cell 3 _ rfl
   have y4 := hC.cell 4 _ rfl
   have HC := h_ hC
   clear hC g1 v1 hkw hkx hkc hkt hkm hkl3 hkk HN hN2 hle2 hN2e hb5 hx hxl HK HB
   go_wp2_with fail
   refine Hc.mono ?_
   rintro e w6 ⟨rfl, hb6⟩
   have HB6 := h_ (HC.call hb6).b
   clear hb6 Hc y0 y1 y2 y3 y4 x0 x1 x2 x3 x4
   go_wp2
   go_roundw
   case rel =>
    first
     | exact ⟨i + 1, N2, by omega, rfl, by go_num, hN2b, HN2, HB6⟩
     | exact ⟨⟨i + 1, N2, by omega, rfl, by go_num, hN2b, HN2, HB6⟩, rfl⟩
   case measure => simp [intOf]; omega
  ·have hiK : i = K := by omega
   have HN2 : Hid (N = L + XL) := by
    show _ = _
    rw [u_ HN, List.take_of_length_le (by rw [u_ Hxl]; omega), u_ HXL]
   obtain ⟨d1, d1n⟩ := ltVVf i K
   clear hiK HN
   go_wp2
   go_ret
   exact ⟨N, bs ++ xs.flatten, rfl, by rw [u_ HN2]; exact u_ HBody, hN, u_ HB⟩
theorem inner_all : ∀ n, InnerC n
 | 0 => fun _ _ _ _ _ _ h => h.elim
 | n + 1 => inner_step n (size_step n (inner_all n))
theorem size_all (n : Nat) : SizeC n := size_step n (inner_all n)
end K
namespace K
abbrev cb := Lib.compareBytes
theorem cb_cons (a b : UInt8) (l m : Bs) : cb (a :: l) (b :: m) = if a < b then -1 else if b < a then 1 else cb l m := rfl
theorem u8_tri {a b : UInt8} (h1 : ¬ a < b) (h2 : ¬ b < a) : a = b := by
 rw [UInt8.lt_iff_toNat_lt] at h1 h2
 exact UInt8.toNat_inj.1 (by omega)
theorem cb_eq : ∀ a b : Bs, cb a b = 0 → a = b
 | [], [], _ => rfl
 | [], _ :: _, h => by cases h
 | _ :: _, [], h => by cases h
 | a :: l, b :: m, h => by
  rw [cb_cons] at h
  split at h
  ·cases h
  split at h
  ·cases h
  ·rename_i h1 h2
   rw [u8_tri h1 h2, cb_eq l m h]
theorem cb_less : ∀ a b : Bs, decide (cb a b < 0) = lessP a b
 | [], [] => rfl
 | [], _ :: _ => rfl
 | _ :: _, [] => rfl
 | a :: l, b :: m => by
  have e : lessP (a :: l) (b :: m) = if a = b then lessP l m else decide (a < b) := rfl
  rw [cb_cons, e]
  by_cases h1 : a < b
  ·have hne : a ≠ b := fun e => by rw [e] at h1; exact UInt8.lt_irrefl _ h1
   rw [if_pos h1, if_neg hne, decide_eq_true h1]
   rfl
  ·by_cases h2 : b < a
   ·have hne : a ≠ b := fun e => by rw [e] at h2; exact UInt8.lt_irrefl _ h2
    rw [if_neg h1, if_pos h2, if_neg hne, decide_eq_false h1]
    rfl
   ·rw [if_neg h1, if_neg h2, if_pos (u8_tri h1 h2), cb_less l m]
theorem cb_pre : ∀ a x y : Bs, cb (a ++ x) (a ++ y) = cb x y
 | [], _, _ => rfl
 | a :: l, x, y => by
  rw [List.cons_append, List.cons_append, cb_cons, if_neg (UInt8.lt_irrefl a), if_neg (UInt8.lt_irrefl a)]
  exact cb_pre l x y
theorem cb_app : ∀ a b x y : Bs, cb a b ≠ 0 → (∀ z, b = a ++ z → z = []) → (∀ z, a = b ++ z → z = []) → cb (a ++ x) (b ++ y) = cb a b
 | [], [], _, _, h, _, _ => absurd rfl h
 | [], c :: m, _, _, _, h, _ => by have := h (c :: m) rfl; cases this
 | c :: l, [], _, _, _, _, h => by have := h (c :: l) rfl; cases this
 | a :: l, b :: m, x, y, h, h1, h2 => by
  rw [List.cons_append, List.cons_append, cb_cons, cb_cons]
  rw [cb_cons] at h
  split
  ·rfl
  split
  ·rfl
  ·rename_i e1 e2
   rw [if_neg e1, if_neg e2] at h
   have e := u8_tri e1 e2
   subst e
   exact cb_app l m x y h (fun z hz => h1 z (by rw [hz]; rfl)) (fun z hz => h2 z (by rw [hz]; rfl))
theorem head_free {c c' t t' N N' : Nat} {m m' : Bool} (hc : c ≤ 3) (hc' : c' ≤ 3) (ht : t < 2097152) (ht' : t' < 2097152) (hN : N < 4294967296) (hN' : N' < 4294967296) {x y : Bs} (h : tagB c t m ++ lenB N ++ x = tagB c' t' m' ++ lenB N' ++ y) : c = c' ∧ t = t' ∧ m = m' ∧ N = N' ∧ x = y := by
 rw [List.append_assoc, List.append_assoc] at h
 have h1 := tag_there m hc ht (lenB N ++ x)
 rw [h, tag_there m' hc' ht'] at h1
 simp only [Told.yes.injEq, Prod.mk.injEq] at h1
 obtain ⟨e1, e2, e3, e4⟩ := h1
 have h2 := len_there hN x
 rw [← e4, len_there hN'] at h2
 simp only [Told.yes.injEq, Prod.mk.injEq] at h2
 exact ⟨e1.symm, e2.symm, e3.symm, h2.1.symm, h2.2.symm⟩
theorem bytes_free {f : Nat} {v v' : DV} {W W' Z : Bs} (h : writeP formD f v = .yes W) (h' : writeP formD f v' = .yes W') (hl : W'.length < 4294967296) (e : W' = W ++ Z) : Z = [] := by
 have h1 := (value_there formD f v W Z h (by rw [e, List.length_append] at hl; omega)).2
 have h2 := (value_there formD f v' W' [] h' hl).2
 rw [List.append_nil, e, h1] at h2
 simp only [Told.yes.injEq, Prod.mk.injEq] at h2
 exact h2.2
def cbL : List Bs → List Bs → Int
 | [], [] => 0
 | [], _ :: _ => -1
 | _ :: _, [] => 1
 | a :: l, b :: m => if cb a b ≠ 0 then cb a b else cbL l m
theorem cbL_flat {f : Nat} : ∀ (ks ls : List DV) (xs ys : List Bs), allP (writeP formD f) ks = .yes xs → allP (writeP formD f) ls = .yes ys → (∀ x ∈ xs, x.length < 4294967296) → (∀ y ∈ ys, y.length < 4294967296) → cbL xs ys = cb xs.flatten ys.flatten
 | [], [], xs, ys, h1, h2, _, _ => by
  unfold allP at h1 h2
  cases h1
  cases h2
  rfl
 | [], l :: ls, xs, ys, h1, h2, _, hy => by
  unfold allP at h1
  cases h1
  rw [all_cons] at h2
  split at h2
  ·cases h2
  ·rename_i y hyy
   split at h2
   ·cases h2
   ·rename_i ys' _
    cases h2
    have := (value_there formD f l y [] hyy (hy y (by simp))).1
    cases y with
    | nil => simp at this
    | cons c y => rfl
 | k :: ks, [], xs, ys, h1, h2, hx, _ => by
  unfold allP at h2
  cases h2
  rw [all_cons] at h1
  split at h1
  ·cases h1
  ·rename_i x hxx
   split at h1
   ·cases h1
   ·rename_i xs' _
    cases h1
    have := (value_there formD f k x [] hxx (hx x (by simp))).1
    cases x with
    | nil => simp at this
    | cons c x => rfl
 | k :: ks, l :: ls, xs, ys, h1, h2, hx, hy => by
  rw [all_cons] at h1 h2
  split at h1
  ·cases h1
  rename_i x hxx
  split at h1
  ·cases h1
  rename_i xs' hxs
  cases h1
  split at h2
  ·cases h2
  rename_i y hyy
  split at h2
  ·cases h2
  rename_i ys' hys
  cases h2
  rw [List.flatten_cons, List.flatten_cons]
  show (if cb x y ≠ 0 then cb x y else cbL xs' ys') = _
  split
  ·rename_i hne
   exact (cb_app x y _ _ hne (fun z hz => bytes_free hxx hyy (hy y (by simp)) hz) (fun z hz => bytes_free hyy hxx (hx x (by simp)) hz)).symm
  ·rename_i he
   have := cb_eq x y (by omega)
   subst this
   rw [cb_pre]
   exact cbL_flat ks ls xs' ys' hxs hys (fun z hz => hx z (by simp [hz])) (fun z hz => hy z (by simp [hz]))
theorem falls_at : ∀ (xs : List Bs), fallsP xs = true ↔ ∃ (i : Nat) (a b : Bs), xs[i]? = some a ∧ xs[i + 1]? = some b ∧ lessP b a = true
 | [] => by simp [fallsP]
 | [a] => by
  constructor
  ·intro h; cases h
  ·rintro ⟨i, a', b, _, h2, _⟩
   simp at h2
 | a :: b :: l => by
  rw [fallsP_two, Bool.or_eq_true, falls_at (b :: l)]
  constructor
  ·rintro (h | ⟨i, x, y, h1, h2, h3⟩)
   ·exact ⟨0, a, b, rfl, rfl, h⟩
   ·exact ⟨i + 1, x, y, by simpa using h1, by simpa using h2, h3⟩
  ·rintro ⟨i, x, y, h1, h2, h3⟩
   match i with
   | 0 =>
    simp at h1 h2
    subst h1 h2
    exact Or.inl h3
   | i + 1 => exact Or.inr ⟨i, x, y, by simpa using h1, by simpa using h2, h3⟩
theorem load_bytes (w : World) (b : Nat) : ∀ (l : Bs) (o : Nat) (acc : ByteArray), (∀ k, k < l.length → w.cell? ⟨b, o + k, none⟩ = some (.int .u8 ((l.getD k 0).toNat : Int))) → (Extern.Bytes.loadBytes ⟨b, o, none⟩ l.length acc).run Tryz.prog w = .ok ⟨acc.data ++ l.toArray⟩ w
 | [], o, acc, _ => by
  show (Extern.Bytes.loadBytes ⟨b, o, none⟩ 0 acc).run Tryz.prog w = _
  simp [Extern.Bytes.loadBytes]
 | c :: l, o, acc, h => by
  have h0 : w.cell? ⟨b, o, none⟩ = some (.int .u8 (c.toNat : Int)) := by simpa using h 0 (by simp)
  have ih := load_bytes w b l (o + 1) (acc.push c) (fun k hk => by
   have := h (k + 1) (by simpa using hk)
   rw [show o + 1 + k = o + (k + 1) by omega]
   simpa using this)
  show (Extern.Bytes.loadBytes ⟨b, o, none⟩ (l.length + 1) acc).run Tryz.prog w = _
  unfold Extern.Bytes.loadBytes
  simp only [Sem.run_bind, run_load, h0, Result.andThen_ok]
  have e1 : ((c.toNat : Int).toNat.toUInt8) = c := by simp
  have e2 : (⟨b, o, none⟩ : Addr).add 1 = ⟨b, o + 1, none⟩ := by simp [Addr.add_mid]
  rw [e1, e2, ih]
  simp
theorem bytes_of {w : World} {x : Value} {l : Bs} (h : BytesAt w x l) : (Extern.Bytes.bytesOf x).run Tryz.prog w = .ok ⟨l.toArray⟩ w := by
 obtain ⟨sp, c, rfl, _, _, hc⟩ := bytes_open h
 cases l with
 | nil =>
  cases sp with
  | none => rfl
  | some a => rfl
 | cons a l =>
  obtain ⟨b, o, rfl, _, hcell⟩ := hc (by simp)
  have := load_bytes w b (a :: l) o .empty hcell
  show (Extern.Bytes.loadBytes ⟨b, o, none⟩ (a :: l).length .empty).run Tryz.prog w = _
  rw [this]
  show Result.ok (ByteArray.mk (#[] ++ (a :: l).toArray)) w = _
  rw [Array.empty_append]
theorem run_cmp {w : World} {x y : Value} {a b : Bs} (hx : BytesAt w x a) (hy : BytesAt w y b) : (Extern.BytealgCompare.compare #[x, y]).run Tryz.prog w = .ok (.int .i64 (cb a b)) w := by
 change Sem.run Tryz.prog (do pure (goInt (Extern.BytealgCompare.cmp (← Extern.Bytes.bytesOf x) (← Extern.Bytes.bytesOf y)))) w = _
 simp only [Sem.run_bind, Sem.run_pure, bytes_of hx, bytes_of hy, Result.andThen_ok]
 rw [Lib.cmp_eq]
 rfl
theorem bcmp_c {w : World} {x y : Value} {a b : Bs} (hx : BytesAt w x a) (hy : BytesAt w y b) : Calls Tryz.prog 200 #[x, y] w fun e w' => e = .returned (.int .i64 (cb a b)) ∧ w' = w := by
 have H : Hid (∀ W, W = w → (callFunc 204 #[x, y]).run Tryz.prog W = .ok (.value (.int .i64 (cb a b))) W) := fun W hW => by
  subst hW
  rw [run_callFunc_extern Tryz.func204 (by kernel_rfl) (by kernel_rfl) (by kernel_rfl) (e := Extern.BytealgCompare.compare) (by kernel_rfl), run_cmp hx hy]
  rfl
 obtain ⟨z, hz⟩ := exq (cb a b)
 rw [hz] at H ⊢
 have H0 := u_ H w rfl
 clear H hx hy hz
 go_enter Tryz.func200, Tryz.ntmps200
 go_wp2
 go_ret
 exact ⟨rfl, rfl⟩
end K
namespace K
def RowK (n : Nat) (S : Nat → Prop) (w : World) (x : Value) (ks : List DV) : Prop := ∃ sk ck, x = .slice sk ks.length ck ∧ ∀ (i : Nat) (k : DV), ks[i]? = some k → ∃ (ba oa : Nat) (ds : List Value), sk = some ⟨ba, oa, none⟩ ∧ CellsAt w ba (oa + i * 5) ds ∧ VAt n S w ds k
theorem RowK.below {n : Nat} {S : Nat → Prop} {a b : World} {x : Value} {ks : List DV} (h : RowK n S a x ks) (hb : Below a.heap.size a b) : RowK n S b x ks := by
 obtain ⟨sk, ck, e, h⟩ := h
 refine ⟨sk, ck, e, fun i k hk => ?_⟩
 obtain ⟨ba, oa, ds, e1, h1, h2⟩ := h i k hk
 exact ⟨ba, oa, ds, e1, h1.below hb, h2.below hb⟩
def CmpC (n : Nat) : Prop := ∀ (f : Nat) (S1 S2 : Nat → Prop) (v1 v2 : DV) (w : World) (cs1 cs2 : List Value) (W1 W2 : Bs), VAt n S1 w cs1 v1 → VAt n S2 w cs2 v2 → weight v1 ≤ 1000000 → weight v2 ≤ 1000000 → writeP formD f v1 = .yes W1 → writeP formD f v2 = .yes W2 → Calls Tryz.prog 193 #[.agg cs1.toArray, .agg cs2.toArray] w fun e w' => e = .returned (.int .i64 (cb W1 W2)) ∧ Below w.heap.size w w'
theorem cbL_step {xs ys : List Bs} {i : Nat} {x y : Bs} (hx : xs[i]? = some x) (hy : ys[i]? = some y) : cbL (xs.drop i) (ys.drop i) = if cb x y ≠ 0 then cb x y else cbL (xs.drop (i + 1)) (ys.drop (i + 1)) := by
 have h1 : i < xs.length := (List.getElem?_eq_some_iff.1 hx).1
 have h2 : i < ys.length := (List.getElem?_eq_some_iff.1 hy).1
 rw [List.getElem?_eq_getElem h1] at hx
 rw [List.getElem?_eq_getElem h2] at hy
 rw [List.drop_eq_getElem_cons h1, List.drop_eq_getElem_cons h2, Option.some.inj hx, Option.some.inj hy]
 rfl
theorem cbL_long {xs ys : List Bs} {i : Nat} (h1 : i < xs.length) (h2 : ys.length ≤ i) : cbL (xs.drop i) (ys.drop i) = 1 := by
 rw [List.drop_eq_getElem_cons h1, List.drop_of_length_le h2]
 rfl
theorem cbL_end {xs ys : List Bs} {i : Nat} (h1 : xs.length = i) : cbL (xs.drop i) (ys.drop i) = if i < ys.length then -1 else 0 := by
 rw [List.drop_of_length_le (by omega)]
 by_cases h : i < ys.length
 ·rw [if_pos h, List.drop_eq_getElem_cons h]
  rfl
 ·rw [if_neg h, List.drop_of_length_le (by omega)]
  rfl
def SCmpC (n : Nat) : Prop := ∀ (f : Nat) (S1 S2 : Nat → Prop) (k1 k2 : List DV) (w : World) (x1 x2 : Value) (xs ys : List Bs), RowK n S1 w x1 k1 → RowK n S2 w x2 k2 → weights k1 ≤ 1000000 → weights k2 ≤ 1000000 → allP (writeP formD f) k1 = .yes xs → allP (writeP formD f) k2 = .yes ys → Calls Tryz.prog 201 #[x1, x2, .func (.func 193) #[] #[]] w fun e w' => e = .returned (.int .i64 (cbL xs ys)) ∧ Below w.heap.size w w'
theorem scmp_step (n : Nat) (hc : CmpC n) : SCmpC n := fun f S1 S2 k1 k2 w x1 x2 xs ys hr1 hr2 hw1 hw2 hxs hys => by
 obtain ⟨hxl, hxg⟩ := all_get hxs
 obtain ⟨hyl, hyg⟩ := all_get hys
 have HR1 : Hid (∀ wr, Below w.heap.size w wr → RowK n S1 wr x1 k1) := fun wr hb => hr1.below hb
 have HR2 : Hid (∀ wr, Below w.heap.size w wr → RowK n S2 wr x2 k2) := fun wr hb => hr2.below hb
 obtain ⟨sk1, ck1, e1, _⟩ := hr1
 obtain ⟨sk2, ck2, e2, _⟩ := hr2
 have hk1 := weights_len k1
 have hk2 := weights_len k2
 obtain ⟨K1, hK1⟩ := exq k1.length
 obtain ⟨K2, hK2⟩ := exq k2.length
 rw [hK1] at e1 hk1 hxl
 rw [hK2] at e2 hk2 hyl
 subst e1 e2
 have HG1 : Hid (∀ (i : Nat) (wr : World), i < K1 → Below w.heap.size w wr → ∃ (k : DV) (ba oa : Nat) (ds : List Value) (x : Bs), sk1 = some ⟨ba, oa, none⟩ ∧ xs[i]? = some x ∧ CellsAt wr ba (oa + i * 5) ds ∧ VAt n S1 wr ds k ∧ weight k ≤ 1000000 ∧ writeP formD f k = .yes x) := fun i wr hi hb => by
  have hik : k1[i]? = some k1[i] := List.getElem?_eq_getElem (by omega)
  obtain ⟨sk', ck', e, h⟩ := u_ HR1 wr hb
  simp only [Value.slice.injEq] at e
  obtain ⟨rfl, _, _⟩ := e
  obtain ⟨ba, oa, ds, q1, q2, q3⟩ := h i _ hik
  obtain ⟨x, hx, hg⟩ := hxg i _ hik
  have := weight_kid hik
  exact ⟨_, ba, oa, ds, x, q1, hx, q2, q3, by omega, hg⟩
 have HG2 : Hid (∀ (i : Nat) (wr : World), i < K2 → Below w.heap.size w wr → ∃ (k : DV) (ba oa : Nat) (ds : List Value) (x : Bs), sk2 = some ⟨ba, oa, none⟩ ∧ ys[i]? = some x ∧ CellsAt wr ba (oa + i * 5) ds ∧ VAt n S2 wr ds k ∧ weight k ≤ 1000000 ∧ writeP formD f k = .yes x) := fun i wr hi hb => by
  have hik : k2[i]? = some k2[i] := List.getElem?_eq_getElem (by omega)
  obtain ⟨sk', ck', e, h⟩ := u_ HR2 wr hb
  simp only [Value.slice.injEq] at e
  obtain ⟨rfl, _, _⟩ := e
  obtain ⟨ba, oa, ds, q1, q2, q3⟩ := h i _ hik
  obtain ⟨x, hx, hg⟩ := hyg i _ hik
  have := weight_kid hik
  exact ⟨_, ba, oa, ds, x, q1, hx, q2, q3, by omega, hg⟩
 have Hxl := h_ hxl
 have Hyl := h_ hyl
 have Hc := h_ hc
 have Hb0 := h_ (Below.refl w.heap.size w)
 clear hxl hyl hxg hyg hxs hys HR1 HR2 hc hK1 hK2
 go_enter Tryz.func201, Tryz.ntmps201
 go_wp2
 go_loopw [13] (fun ii wr => ∃ i : Nat, i ≤ K1 ∧ ii = .int .i64 (i : Int) ∧ Hid (cbL xs ys = cbL (xs.drop i) (ys.drop i)) ∧ Hid (Below w.heap.size w wr)) (fun ii _ => K1 - (intOf ii).toNat)
 case atStart => exact ⟨0, by omega, rfl, by show _ = _; rw [List.drop_zero, List.drop_zero], Hb0⟩
 case round =>
  obtain ⟨i, hi, rfl, HE, HB⟩ := hrel
  clear Hb0
  by_cases hlt : i < K1
  ·obtain ⟨k, ba, oa, ds, x, rfl, hx, g1, v1, hkw, hkx⟩ := u_ HG1 i wr hlt (u_ HB)
   obtain ⟨p1, q1, p2, q2, rfl⟩ := v1.form
   obtain ⟨a0, a1, a2, a3, a4⟩ := g1.five
   obtain ⟨d1, d1n⟩ := ltVV i K1
   have i0 : (0 : Int) ≤ (i : Int) := by omega
   have i1 : (i : Int) < (K1 : Int) := by omega
   obtain ⟨kc, kt, km, kl, kk, hkc, hkt, hkm, hkl3, hkk⟩ := ex5 k
   simp only [hkc, hkt, hkm, hkl3, hkk] at a0 a1 a2 a3 a4 v1
   have hC := Blk.new (u_ HB) #[.int .i64 kc, .int .i64 kt, .bool km, .slice p1 kl q1, .slice p2 kk q2] 25
   obtain ⟨w5, hw5⟩ := exq (wr.alloc (.cells #[.int .i64 kc, .int .i64 kt, .bool km, .slice p1 kl q1, .slice p2 kk q2] 25))
   obtain ⟨C, eC⟩ := exq wr.heap.size
   have hb5 := allocB hw5
   have v5 := v1.below hb5
   rw [hw5, eC] at hC
   clear v1 g1
   by_cases h2 : i < K2
   case neg =>
    obtain ⟨d2, d2n⟩ := leVV K2 i
    have HT : Hid (cbL xs ys = 1) := by show _ = _; rw [u_ HE, cbL_long (by rw [u_ Hxl]; exact hlt) (by rw [u_ Hyl]; omega)]
    have HC := h_ hC
    clear hC v5 hb5 hkw hkx hx HE hkc hkt hkm hkl3 hkk
    go_wp2
    go_ret
    exact ⟨by rw [u_ HT]; rfl, HC.b⟩
   obtain ⟨d2, d2n⟩ := leVVf K2 i
   have i2 : (i : Int) < (K2 : Int) := by omega
   obtain ⟨l, bb, ob, es, y, rfl, hy, g2, v2, hlw, hly⟩ := u_ HG2 i w5 h2 hC.b
   obtain ⟨r1, t1, r2, t2, rfl⟩ := v2.form
   obtain ⟨b0, b1, b2, b3, b4⟩ := g2.five
   obtain ⟨lc, hlc⟩ := exq l.cls
   obtain ⟨lt, hlt'⟩ : ∃ lt, l.tag = lt := ⟨_, rfl⟩
   obtain ⟨lm, hlm⟩ := exq l.made
   obtain ⟨ll, hll⟩ := exq l.bytes.length
   obtain ⟨lk, hlk⟩ := exq l.kids.length
   simp only [hlc, hlt', hlm, hll, hlk] at b0 b1 b2 b3 b4 v2
   have hD := Blk.new hC.b #[.int .i64 lc, .int .i64 lt, .bool lm, .slice r1 ll t1, .slice r2 lk t2] 25
   have hC6 := hC.lit (.cells #[.int .i64 lc, .int .i64 lt, .bool lm, .slice r1 ll t1, .slice r2 lk t2] 25)
   obtain ⟨w6, hw6⟩ := exq (w5.alloc (.cells #[.int .i64 lc, .int .i64 lt, .bool lm, .slice r1 ll t1, .slice r2 lk t2] 25))
   obtain ⟨D, eD⟩ := exq w5.heap.size
   have hb6 := allocB hw6
   have Hcall := h_ (u_ Hc f S1 S2 k l w6 _ _ x y (v5.below hb6) (v2.below hb6) hkw hlw hkx hly)
   unfold dcells at Hcall
   rw [hw6, eD] at hD
   rw [hw6] at hC6
   have y0 := hC6.cell 0 _ rfl
   have y1 := hC6.cell 1 _ rfl
   have y2 := hC6.cell 2 _ rfl
   have y3 := hC6.cell 3 _ rfl
   have y4 := hC6.cell 4 _ rfl
   have z0 := hD.cell 0 _ rfl
   have z1 := hD.cell 1 _ rfl
   have z2 := hD.cell 2 _ rfl
   have z3 := hD.cell 3 _ rfl
   have z4 := hD.cell 4 _ rfl
   have HD := h_ hD
   have HE2 : Hid (cbL xs ys = if cb x y ≠ 0 then cb x y else cbL (xs.drop (i + 1)) (ys.drop (i + 1))) := by show _ = _; rw [u_ HE, cbL_step hx hy]
   obtain ⟨r, hr⟩ := exq (cb x y)
   rw [hr] at Hcall HE2
   clear hC hC6 hD v5 v2 g2 hb5 hb6 hkw hkx hlw hly hx hy HE hkc hkt hkm hkl3 hkk hlc hlt' hlm hll hlk hr HG1 HG2 HB
   go_wp2_with fail
   refine Hcall.mono ?_
   rintro e w7 ⟨rfl, hb7⟩
   have HB7 := h_ (HD.call hb7).b
   clear hb7 Hcall y0 y1 y2 y3 y4 z0 z1 z2 z3 z4 a0 a1 a2 a3 a4 b0 b1 b2 b3 b4
   by_cases hr0 : r = 0
   ·have e0 : (r == 0) = true := by simp [hr0]
    have e0' : (r != 0) = false := by simp [hr0]
    have HE3 : Hid (cbL xs ys = cbL (xs.drop (i + 1)) (ys.drop (i + 1))) := by show _ = _; rw [u_ HE2, if_neg (by omega)]
    clear HE2 hr0
    go_wp2
    go_roundw
    case rel =>
     first
      | exact ⟨i + 1, by omega, by go_num, HE3, HB7⟩
      | exact ⟨⟨i + 1, by omega, by go_num, HE3, HB7⟩, rfl⟩
    case measure => simp [intOf]; omega
   ·have e0 : (r == 0) = false := by simp [hr0]
    have e0' : (r != 0) = true := by simp [hr0]
    have HT : Hid (cbL xs ys = r) := by show _ = _; rw [u_ HE2, if_pos hr0]
    clear HE2 hr0
    go_wp2
    go_ret
    exact ⟨by rw [u_ HT]; rfl, u_ HB7⟩
  ·have hiK : i = K1 := by omega
   obtain ⟨d1, d1n⟩ := ltVVf i K1
   have HT0 : Hid (cbL xs ys = if K1 < K2 then -1 else 0) := by
    show _ = _
    rw [u_ HE, cbL_end (by rw [u_ Hxl]; exact hiK.symm), u_ Hyl, hiK]
   clear hiK HE
   by_cases h2 : K1 < K2
   ·obtain ⟨d2, d2n⟩ := ltVV K1 K2
    have HT : Hid (cbL xs ys = -1) := by show _ = _; rw [u_ HT0, if_pos h2]
    go_wp2
    go_ret
    exact ⟨by rw [u_ HT]; rfl, u_ HB⟩
   ·obtain ⟨d2, d2n⟩ := ltVVf K1 K2
    have HT : Hid (cbL xs ys = 0) := by show _ = _; rw [u_ HT0, if_neg h2]
    go_wp2
    go_ret
    exact ⟨by rw [u_ HT]; rfl, u_ HB⟩
end K
namespace K
theorem body_parts {f : Nat} {c t : Int} {m : Bool} {b : Bs} {ks : List DV} {W X : Bs} {N : Nat} (h : writeP formD (f + 1) (.mk c t m b ks) = .yes W) (hN : N < 4294967296) (hW : W.length < 4294967296) (hB : Body (.mk c t m b ks) W N X) : ∃ xs, allP (writeP formD f) ks = .yes xs ∧ X = b ++ xs.flatten ∧ (m = true → b = []) ∧ (m = false → ks = []) := by
 obtain ⟨g1, g2, g3, g4, _, g5, g6, xs, hxs, _, hWe⟩ := write_open h
 obtain ⟨hW2, hX⟩ := hB
 have hl : (b ++ xs.flatten).length < 4294967296 := by
  have := congrArg List.length hWe
  simp only [List.length_append] at this ⊢
  omega
 simp only [DV.cls, DV.tag, DV.made] at hW2
 rw [hW2] at hWe
 obtain ⟨_, _, _, _, e⟩ := head_free (by omega) (by omega) (by omega) (by omega) hN hl hWe
 exact ⟨xs, hxs, e, g5, g6⟩
theorem cmp_step (n : Nat) (hsc : SCmpC n) : CmpC (n + 1) := fun f S1 S2 v1 v2 w cs1 cs2 W1 W2 hv1 hv2 hw1 hw2 hW1 hW2 => by
 cases f with
 | zero => simp [writeP] at hW1
 | succ f =>
 obtain ⟨c1, t1, hc1, ht1, hc13, ht12⟩ := right_nums hW1
 obtain ⟨c2, t2, hc2, ht2, hc23, ht22⟩ := right_nums hW2
 have hW1l : W1.length ≤ 9000000 := by have := out_le _ v1 W1 hw1 hW1; omega
 have hW2l : W2.length ≤ 9000000 := by have := out_le _ v2 W2 hw2 hW2; omega
 obtain ⟨s1, p1, u1, q1, e1⟩ := hv1.form
 obtain ⟨s2, p2, u2, q2, e2⟩ := hv2.form
 have Hin1 : Hid (∀ W, Below w.heap.size w W → Calls Tryz.prog 125 #[.agg cs1.toArray] W fun e w' => ∃ (N : Nat) (X : Bs), e = .returned (.int .i64 (N : Int)) ∧ Body v1 W1 N X ∧ N ≤ 9000000 ∧ Below W.heap.size W w') := fun W hb => inner_all (n + 1) _ S1 v1 W cs1 W1 (hv1.below hb) hw1 hW1
 have Hin2 : Hid (∀ W, Below w.heap.size w W → Calls Tryz.prog 125 #[.agg cs2.toArray] W fun e w' => ∃ (N : Nat) (X : Bs), e = .returned (.int .i64 (N : Int)) ∧ Body v2 W2 N X ∧ N ≤ 9000000 ∧ Below W.heap.size W w') := fun W hb => inner_all (n + 1) _ S2 v2 W cs2 W2 (hv2.below hb) hw2 hW2
 obtain ⟨x1, k1, sb1, hx1, hrk1⟩ : ∃ (x1 : Value) (ks1 : List DV) (bs1 : Bs), v1.kids = ks1 ∧ (∀ W, Below w.heap.size w W → RowK n S1 W (.slice u1 ks1.length q1) ks1 ∧ BytesAt W (.slice s1 v1.bytes.length p1) v1.bytes) := ⟨.nilFunc, v1.kids, [], rfl, fun W hb => ⟨⟨u1, q1, rfl, fun i k hk => by
   have h1 := hv1.below hb
   rw [e1] at h1
   obtain ⟨c, t, m, b, ks⟩ := v1
   exact kid_at h1 i k hk⟩, by
   have h1 := hv1.below hb
   rw [e1] at h1
   obtain ⟨xb, _, _, e, h2, _⟩ := h1
   simp only [dcells, List.cons.injEq] at e
   rw [e.2.2.2.1]
   exact h2⟩⟩
 obtain ⟨x2, k2, sb2, hx2, hrk2⟩ : ∃ (x2 : Value) (ks2 : List DV) (bs2 : Bs), v2.kids = ks2 ∧ (∀ W, Below w.heap.size w W → RowK n S2 W (.slice u2 ks2.length q2) ks2 ∧ BytesAt W (.slice s2 v2.bytes.length p2) v2.bytes) := ⟨.nilFunc, v2.kids, [], rfl, fun W hb => ⟨⟨u2, q2, rfl, fun i k hk => by
   have h1 := hv2.below hb
   rw [e2] at h1
   obtain ⟨c, t, m, b, ks⟩ := v2
   exact kid_at h1 i k hk⟩, by
   have h1 := hv2.below hb
   rw [e2] at h1
   obtain ⟨xb, _, _, e, h2, _⟩ := h1
   simp only [dcells, List.cons.injEq] at e
   rw [e.2.2.2.1]
   exact h2⟩⟩
 clear x1 x2 sb1 sb2
 obtain ⟨m1, hm1⟩ := exq v1.made
 obtain ⟨m2, hm2⟩ := exq v2.made
 obtain ⟨bb1, hb1⟩ := exq v1.bytes
 obtain ⟨bb2, hb2⟩ := exq v2.bytes
 rw [hc1, ht1, hm1, hb1, hx1] at e1
 rw [hc2, ht2, hm2, hb2, hx2] at e2
 rw [hb1] at hrk1
 rw [hb2] at hrk2
 have hv1e : v1 = .mk (c1 : Int) (t1 : Int) m1 bb1 k1 := by rw [v1.eta, hc1, ht1, hm1, hb1, hx1]
 have hv2e : v2 = .mk (c2 : Int) (t2 : Int) m2 bb2 k2 := by rw [v2.eta, hc2, ht2, hm2, hb2, hx2]
 -- what the parts say
 have HPure : Hid (∀ N1 X1 N2 X2, Body v1 W1 N1 X1 → N1 ≤ 9000000 → Body v2 W2 N2 X2 → N2 ≤ 9000000 →
   (cb (tagB c1 t1 m1 ++ lenB N1) (tagB c2 t2 m2 ++ lenB N2) ≠ 0 → cb W1 W2 = cb (tagB c1 t1 m1 ++ lenB N1) (tagB c2 t2 m2 ++ lenB N2)) ∧
   (cb (tagB c1 t1 m1 ++ lenB N1) (tagB c2 t2 m2 ++ lenB N2) = 0 → (cb bb1 bb2 ≠ 0 → cb W1 W2 = cb bb1 bb2) ∧
    (cb bb1 bb2 = 0 → ∃ xs ys, allP (writeP formD f) k1 = .yes xs ∧ allP (writeP formD f) k2 = .yes ys ∧ cb W1 W2 = cbL xs ys))) := fun N1 X1 N2 X2 h1 h1n h2 h2n => by
  subst hv1e hv2e
  obtain ⟨xs, hxs, eX1, g1, g1'⟩ := body_parts hW1 (by omega) (by omega) h1
  obtain ⟨ys, hys, eX2, g2, g2'⟩ := body_parts hW2 (by omega) (by omega) h2
  have hh1 : W1 = tagB c1 t1 m1 ++ lenB N1 ++ X1 := h1.1
  have hh2 : W2 = tagB c2 t2 m2 ++ lenB N2 ++ X2 := h2.1
  have hx1l : ∀ x ∈ xs, x.length < 4294967296 := fun x hx => by
   have a := all_len hx
   have b := congrArg List.length hh1
   have d := congrArg List.length eX1
   simp only [List.length_append] at b d
   omega
  have hy1l : ∀ x ∈ ys, x.length < 4294967296 := fun x hx => by
   have a := all_len hx
   have b := congrArg List.length hh2
   have d := congrArg List.length eX2
   simp only [List.length_append] at b d
   omega
  refine ⟨fun hne => ?_, fun h0 => ?_⟩
  ·rw [hh1, hh2]
   exact cb_app _ _ _ _ hne (fun z hz => by
    have := head_free (N := N2) (N' := N1) hc23 hc13 ht22 ht12 (by omega) (by omega) (x := []) (y := z) (by rw [List.append_nil]; exact hz)
    exact this.2.2.2.2.symm) (fun z hz => by
    have := head_free (N := N1) (N' := N2) hc13 hc23 ht12 ht22 (by omega) (by omega) (x := []) (y := z) (by rw [List.append_nil]; exact hz)
    exact this.2.2.2.2.symm)
  ·have hh := cb_eq _ _ h0
   have hf := head_free (N := N1) (N' := N2) hc13 hc23 ht12 ht22 (by omega) (by omega) (x := []) (y := []) (by rw [List.append_nil, List.append_nil]; exact hh)
   have hcb : cb W1 W2 = cb X1 X2 := by rw [hh1, hh2, ← hh, cb_pre]
   have hmm := hf.2.2.1
   refine ⟨fun hne => ?_, fun hb0 => ⟨xs, ys, hxs, hys, ?_⟩⟩
   ·cases hm : m1 with
    | true => rw [g1 hm, g2 (by rw [← hmm, hm])] at hne; exact absurd rfl hne
    | false =>
     have e1 := g1' hm
     have e2 := g2' (by rw [← hmm, hm])
     subst e1 e2
     unfold allP at hxs hys
     cases hxs
     cases hys
     rw [hcb, eX1, eX2]
     simp
   ·have e := cb_eq _ _ hb0
    rw [hcb, eX1, eX2, e, cb_pre, cbL_flat k1 k2 xs ys hxs hys hx1l hy1l]
 have HK1 : Hid (∀ W xs ys, Below w.heap.size w W → allP (writeP formD f) k1 = .yes xs → allP (writeP formD f) k2 = .yes ys → Calls Tryz.prog 201 #[.slice u1 k1.length q1, .slice u2 k2.length q2, .func (.func 193) #[] #[]] W fun e w' => e = .returned (.int .i64 (cbL xs ys)) ∧ Below W.heap.size W w') := fun W xs ys hb hxs hys => by
  have a1 : weights k1 ≤ 1000000 := by rw [hv1e] at hw1; simp only [weight] at hw1; omega
  have a2 : weights k2 ≤ 1000000 := by rw [hv2e] at hw2; simp only [weight] at hw2; omega
  exact hsc f S1 S2 k1 k2 W _ _ xs ys (hrk1 W hb).1 (hrk2 W hb).1 a1 a2 hxs hys
 have HBy1 : Hid (∀ W, Below w.heap.size w W → BytesAt W (.slice s1 bb1.length p1) bb1 ∧ BytesAt W (.slice s2 bb2.length p2) bb2) := fun W hb => ⟨(hrk1 W hb).2, (hrk2 W hb).2⟩
 obtain ⟨L1, hL1⟩ := exq bb1.length
 obtain ⟨L2, hL2⟩ := exq bb2.length
 obtain ⟨K1, hK1⟩ := exq k1.length
 obtain ⟨K2, hK2⟩ := exq k2.length
 rw [hL1, hK1] at e1
 rw [hL2, hK2] at e2
 rw [hL1, hL2] at HBy1
 rw [hK1, hK2] at HK1
 subst e1 e2
 have Hhd1 : Hid (∀ (N : Nat) (W : World), N ≤ 9000000 → GivesB W 126 #[.agg #[.int .i64 (c1 : Int), .int .i64 (t1 : Int), .bool m1, .slice s1 L1 p1, .slice u1 K1 q1], .int .i64 (N : Int)] (tagB c1 t1 m1 ++ lenB N)) := fun N W hN => head_c c1 t1 N m1 s1 u1 L1 p1 K1 q1 W hc13 ht12 (by omega)
 have Hhd2 : Hid (∀ (N : Nat) (W : World), N ≤ 9000000 → GivesB W 126 #[.agg #[.int .i64 (c2 : Int), .int .i64 (t2 : Int), .bool m2, .slice s2 L2 p2, .slice u2 K2 q2], .int .i64 (N : Int)] (tagB c2 t2 m2 ++ lenB N)) := fun N W hN => head_c c2 t2 N m2 s2 u2 L2 p2 K2 q2 W hc23 ht22 (by omega)
 unfold GivesB at Hhd1 Hhd2
 unfold dcells at Hin1 Hin2 ⊢
 have hA0 := Blk.new (Below.refl w.heap.size w) #[.int .i64 (c1 : Int), .int .i64 (t1 : Int), .bool m1, .slice s1 L1 p1, .slice u1 K1 q1] 25
 obtain ⟨w1, ew1⟩ := exq (w.alloc (.cells #[.int .i64 (c1 : Int), .int .i64 (t1 : Int), .bool m1, .slice s1 L1 p1, .slice u1 K1 q1] 25))
 rw [ew1] at hA0
 have hB0 := Blk.new hA0.b #[.int .i64 (c2 : Int), .int .i64 (t2 : Int), .bool m2, .slice s2 L2 p2, .slice u2 K2 q2] 25
 have hA1 := hA0.lit (.cells #[.int .i64 (c2 : Int), .int .i64 (t2 : Int), .bool m2, .slice s2 L2 p2, .slice u2 K2 q2] 25)
 obtain ⟨w2, ew2⟩ := exq (w1.alloc (.cells #[.int .i64 (c2 : Int), .int .i64 (t2 : Int), .bool m2, .slice s2 L2 p2, .slice u2 K2 q2] 25))
 rw [ew2] at hB0 hA1
 obtain ⟨A, eA⟩ := exq w.heap.size
 obtain ⟨B, eB⟩ := exq w1.heap.size
 rw [eA] at hA1
 rw [eB] at hB0
 obtain ⟨R, hR⟩ := exq (cb W1 W2)
 rw [hR] at HPure
 rw [hR]
 have HA := h_ hA1.drew
 have HB := h_ hB0.drew
 have a0 := hA1.cell 0 _ rfl
 have a1 := hA1.cell 1 _ rfl
 have a2 := hA1.cell 2 _ rfl
 have a3 := hA1.cell 3 _ rfl
 have a4 := hA1.cell 4 _ rfl
 have b0 := hB0.cell 0 _ rfl
 have b1 := hB0.cell 1 _ rfl
 have b2 := hB0.cell 2 _ rfl
 have b3 := hB0.cell 3 _ rfl
 have b4 := hB0.cell 4 _ rfl
 clear hA0 hB0 hA1 hv1 hv2 hw1 hw2 hW1 hW2 hW1l hW2l hc1 ht1 hc2 ht2 hx1 hx2 hrk1 hrk2 hb1 hb2 hm1 hm2 hv1e hv2e hL1 hL2 hK1 hK2 hR hsc
 go_enter Tryz.func193, Tryz.ntmps193
 go_wp2
 go_region_held3 (fun w' => w'.cell? ⟨A, 0, none⟩ = some (.int .i64 (c1 : Int)) ∧ w'.cell? ⟨A, 1, none⟩ = some (.int .i64 (t1 : Int)) ∧ w'.cell? ⟨A, 2, none⟩ = some (.bool m1) ∧ w'.cell? ⟨A, 3, none⟩ = some (.slice s1 L1 p1) ∧ w'.cell? ⟨A, 4, none⟩ = some (.slice u1 K1 q1) ∧ w'.cell? ⟨B, 0, none⟩ = some (.int .i64 (c2 : Int)) ∧ w'.cell? ⟨B, 1, none⟩ = some (.int .i64 (t2 : Int)) ∧ w'.cell? ⟨B, 2, none⟩ = some (.bool m2) ∧ w'.cell? ⟨B, 3, none⟩ = some (.slice s2 L2 p2) ∧ w'.cell? ⟨B, 4, none⟩ = some (.slice u2 K2 q2)) (go_keep)
  ((first
        | (go_at_call_of 125 (Value.agg #[Value.int IntKind.i64 (c1 : Int), Value.int IntKind.i64 (t1 : Int), Value.bool m1, Value.slice s1 L1 p1, Value.slice u1 K1 q1])
           refine (u_ Hin1 _ HA.b).mono ?_
           rintro e Wn ⟨N1, X1, rfl, hbo1, hN1, hbn⟩
           have HBo1 := h_ hbo1
           clear hbo1
           replace HA := h_ (HA.call hbn)
           replace HB := h_ (HB.call hbn)
           (try replace HH1 := h_ (HH1.below hbn))
           (try replace HH2 := h_ (HH2.below hbn))
           clear a0 a1 a2 a3 a4 b0 b1 b2 b3 b4 hbn
           have a0 := HA.cell 0 _ rfl; have a1 := HA.cell 1 _ rfl; have a2 := HA.cell 2 _ rfl; have a3 := HA.cell 3 _ rfl; have a4 := HA.cell 4 _ rfl
           have b0 := HB.cell 0 _ rfl; have b1 := HB.cell 1 _ rfl; have b2 := HB.cell 2 _ rfl; have b3 := HB.cell 3 _ rfl; have b4 := HB.cell 4 _ rfl)
        | (go_at_call_of 125 (Value.agg #[Value.int IntKind.i64 (c2 : Int), Value.int IntKind.i64 (t2 : Int), Value.bool m2, Value.slice s2 L2 p2, Value.slice u2 K2 q2])
           refine (u_ Hin2 _ HA.b).mono ?_
           rintro e Wn ⟨N2, X2, rfl, hbo2, hN2, hbn⟩
           have HBo2 := h_ hbo2
           clear hbo2
           replace HA := h_ (HA.call hbn)
           replace HB := h_ (HB.call hbn)
           (try replace HH1 := h_ (HH1.below hbn))
           (try replace HH2 := h_ (HH2.below hbn))
           clear a0 a1 a2 a3 a4 b0 b1 b2 b3 b4 hbn
           have a0 := HA.cell 0 _ rfl; have a1 := HA.cell 1 _ rfl; have a2 := HA.cell 2 _ rfl; have a3 := HA.cell 3 _ rfl; have a4 := HA.cell 4 _ rfl
           have b0 := HB.cell 0 _ rfl; have b1 := HB.cell 1 _ rfl; have b2 := HB.cell 2 _ rfl; have b3 := HB.cell 3 _ rfl; have b4 := HB.cell 4 _ rfl)
        | (go_at_call_of 126 (Value.agg #[Value.int IntKind.i64 (c1 : Int), Value.int IntKind.i64 (t1 : Int), Value.bool m1, Value.slice s1 L1 p1, Value.slice u1 K1 q1])
           refine (u_ Hhd1 N1 _ hN1).mono ?_
           rintro e Wn ⟨z1, rfl, hRn⟩
           have hbn := hRn.b
           have HH1n := h_ hRn.bytes
           clear hRn
           replace HA := h_ (HA.call hbn)
           replace HB := h_ (HB.call hbn)
           (try replace HH2 := h_ (HH2.below hbn))
           have HH1 := HH1n
           clear HH1n
           clear a0 a1 a2 a3 a4 b0 b1 b2 b3 b4 hbn
           have a0 := HA.cell 0 _ rfl; have a1 := HA.cell 1 _ rfl; have a2 := HA.cell 2 _ rfl; have a3 := HA.cell 3 _ rfl; have a4 := HA.cell 4 _ rfl
           have b0 := HB.cell 0 _ rfl; have b1 := HB.cell 1 _ rfl; have b2 := HB.cell 2 _ rfl; have b3 := HB.cell 3 _ rfl; have b4 := HB.cell 4 _ rfl)
        | (go_at_call_of 126 (Value.agg #[Value.int IntKind.i64 (c2 : Int), Value.int IntKind.i64 (t2 : Int), Value.bool m2, Value.slice s2 L2 p2, Value.slice u2 K2 q2])
           refine (u_ Hhd2 N2 _ hN2).mono ?_
           rintro e Wn ⟨z2, rfl, hRn⟩
           have hbn := hRn.b
           have HH2n := h_ hRn.bytes
           clear hRn
           replace HA := h_ (HA.call hbn)
           replace HB := h_ (HB.call hbn)
           (try replace HH1 := h_ (HH1.below hbn))
           have HH2 := HH2n
           clear HH2n
           clear a0 a1 a2 a3 a4 b0 b1 b2 b3 b4 hbn
           have a0 := HA.cell 0 _ rfl; have a1 := HA.cell 1 _ rfl; have a2 := HA.cell 2 _ rfl; have a3 := HA.cell 3 _ rfl; have a4 := HA.cell 4 _ rfl
           have b0 := HB.cell 0 _ rfl; have b1 := HB.cell 1 _ rfl; have b2 := HB.cell 2 _ rfl; have b3 := HB.cell 3 _ rfl; have b4 := HB.cell 4 _ rfl)
        | (go_at_call 200
           refine (bcmp_c (u_ HH1) (u_ HH2)).mono ?_
           rintro e Wn ⟨rfl, rfl⟩)))
 all_goals as_aux_lemma =>
  obtain ⟨gh, gb⟩ := u_ HPure N1 X1 N2 X2 (u_ HBo1) hN1 (u_ HBo2) hN2
  obtain ⟨r, hr⟩ := exq (cb (tagB c1 t1 m1 ++ lenB N1) (tagB c2 t2 m2 ++ lenB N2))
  rw [hr] at gh gb ⊢
  have Hgb := h_ gb
  have Hgh := h_ gh
  clear HPure HBo1 HBo2 hr gb gh Hin1 Hin2 Hhd1 Hhd2 HH1 HH2
  by_cases hr0 : r = 0
  case neg =>
   have e0 : (r == 0) = false := by simp [hr0]
   have e0' : (r != 0) = true := by simp [hr0]
   have HT := h_ (u_ Hgh hr0)
   clear Hgb Hgh hr0
   go_wp2
   go_ret
   exact ⟨by rw [u_ HT]; rfl, HA.b⟩
  have e0 : (r == 0) = true := by simp [hr0]
  have e0' : (r != 0) = false := by simp [hr0]
  have Hg2 := h_ (u_ Hgb hr0)
  clear Hgb Hgh hr0
  obtain ⟨hy1, hy2⟩ := u_ HBy1 _ HA.b
  have Hcm := h_ (bcmp_c hy1 hy2)
  obtain ⟨r2, hr2⟩ := exq (cb bb1 bb2)
  rw [hr2] at Hcm Hg2
  clear hy1 hy2 hr2
  go_wp2_with fail
  refine Hcm.mono ?_
  rintro e Wm ⟨rfl, rfl⟩
  clear Hcm
  by_cases hr0 : r2 = 0
  case neg =>
   have f0 : (r2 == 0) = false := by simp [hr0]
   have f0' : (r2 != 0) = true := by simp [hr0]
   have HT := h_ (Hg2.1 hr0)
   clear Hg2 hr0
   go_wp2
   go_ret
   exact ⟨by rw [u_ HT]; rfl, HA.b⟩
  have f0 : (r2 == 0) = true := by simp [hr0]
  have f0' : (r2 != 0) = false := by simp [hr0]
  obtain ⟨xs, ys, hxs, hys, hT⟩ := Hg2.2 hr0
  have Hsc := h_ (u_ HK1 _ xs ys HA.b hxs hys)
  rw [← hT] at Hsc
  clear Hg2 hr0 hxs hys hT HK1 HBy1
  go_wp2_with fail
  refine Hsc.mono ?_
  rintro e Wz ⟨rfl, hbz⟩
  have HBz := h_ (HA.call hbz).b
  clear hbz Hsc
  go_wp2
  go_ret
  exact ⟨rfl, u_ HBz⟩
theorem cmp_all : ∀ n, CmpC n
 | 0 => fun _ _ _ _ _ _ _ _ _ _ h => h.elim
 | n + 1 => cmp_step n (scmp_step n (cmp_all n))
end K
namespace K
theorem falls_none {xs : List Bs} (h : ∀ (j : Nat) (a b : Bs), xs[j]? = some a → xs[j + 1]? = some b → lessP b a = false) : fallsP xs = false := by
 cases hf : fallsP xs with
 | false => rfl
 | true =>
  obtain ⟨i, a, b, h1, h2, h3⟩ := (falls_at xs).1 hf
  rw [h i a b h1 h2] at h3
  cases h3
def FallC (n : Nat) : Prop := ∀ (f : Nat) (S : Nat → Prop) (ks : List DV) (w : World) (x : Value) (xs : List Bs), RowK n S w x ks → weights ks ≤ 1000000 → allP (writeP formD f) ks = .yes xs → Calls Tryz.prog 178 #[x] w fun e w' => e = .returned (.bool (!fallsP xs)) ∧ Below w.heap.size w w'
theorem sort_c (n f : Nat) (S : Nat → Prop) (ks : List DV) (w : World) (x : Value) (xs : List Bs) (hr : RowK n S w x ks) (hw : weights ks ≤ 1000000) (hxs : allP (writeP formD f) ks = .yes xs) :
  Calls Tryz.prog 192 #[x, .func (.func 193) #[] #[]] w fun e w' => e = .returned (.bool (!fallsP xs)) ∧ Below w.heap.size w w' := by
 obtain ⟨hxl, hxg⟩ := all_get hxs
 have HR1 : Hid (∀ wr, Below w.heap.size w wr → RowK n S wr x ks) := fun wr hb => hr.below hb
 obtain ⟨sk, ck, e1, _⟩ := hr
 have hk1 := weights_len ks
 obtain ⟨K, hK⟩ := exq ks.length
 rw [hK] at e1 hk1 hxl
 subst e1
 have HG : Hid (∀ (i : Nat) (wr : World), i < K → Below w.heap.size w wr → ∃ (k : DV) (ba oa : Nat) (ds : List Value) (x : Bs), sk = some ⟨ba, oa, none⟩ ∧ xs[i]? = some x ∧ CellsAt wr ba (oa + i * 5) ds ∧ VAt n S wr ds k ∧ weight k ≤ 1000000 ∧ writeP formD f k = .yes x) := fun i wr hi hb => by
  have hik : ks[i]? = some ks[i] := List.getElem?_eq_getElem (by omega)
  obtain ⟨sk', ck', e, h⟩ := u_ HR1 wr hb
  simp only [Value.slice.injEq] at e
  obtain ⟨rfl, _, _⟩ := e
  obtain ⟨ba, oa, ds, q1, q2, q3⟩ := h i _ hik
  obtain ⟨x, hx, hg⟩ := hxg i _ hik
  have := weight_kid hik
  exact ⟨_, ba, oa, ds, x, q1, hx, q2, q3, by omega, hg⟩
 have Hxl := h_ hxl
 have Hb0 := h_ (Below.refl w.heap.size w)
 have uK : IntKind.i64.wrap ((K : Int) - 1) = (K : Int) - 1 := IntWalk.i64_in _ (by omega)
 clear hxl hxg hxs HR1 hK
 go_enter Tryz.func192, Tryz.ntmps192
 go_wp2
 go_loopw [5] (fun ii wr => ∃ kk : Int, -1 ≤ kk ∧ kk < (K : Int) ∧ ii = .int .i64 kk ∧ Hid (∀ (j : Nat) (a b : Bs), kk ≤ (j : Int) → xs[j]? = some a → xs[j + 1]? = some b → lessP b a = false) ∧ Hid (Below w.heap.size w wr)) (fun ii _ => (intOf ii).toNat)
 case atStart => exact ⟨(K : Int) - 1, by omega, by omega, rfl, fun j a b hj h1 h2 => by
   have := (List.getElem?_eq_some_iff.1 h2).1
   rw [u_ Hxl] at this
   omega, Hb0⟩
 case round =>
  obtain ⟨kk, hk1', hk2', rfl, HE, HB⟩ := hrel
  clear Hb0 uK
  by_cases hpos : 0 < kk
  ·obtain ⟨J, hJ⟩ : ∃ J : Nat, kk - 1 = (J : Int) := ⟨(kk - 1).toNat, by omega⟩
   obtain ⟨I, hI⟩ : ∃ I : Nat, kk = (I : Int) := ⟨kk.toNat, by omega⟩
   have hIJ : I = J + 1 := by omega
   have hIK : I < K := by omega
   subst hI
   obtain ⟨k, ba, oa, ds, x, rfl, hx, g1, v1, hkw, hkx⟩ := u_ HG I wr hIK (u_ HB)
   obtain ⟨l, bb, ob, es, y, ee, hy, g2, v2, hlw, hly⟩ := u_ HG J wr (by omega) (u_ HB)
   simp only [Option.some.injEq, Addr.mk.injEq, and_true] at ee
   obtain ⟨rfl, rfl⟩ := ee
   obtain ⟨p1, q1, p2, q2, rfl⟩ := v1.form
   obtain ⟨r1, t1, r2, t2, rfl⟩ := v2.form
   obtain ⟨a0, a1, a2, a3, a4⟩ := g1.five
   obtain ⟨b0, b1, b2, b3, b4⟩ := g2.five
   obtain ⟨kc, kt, km, kl, kn, hkc, hkt, hkm, hkl3, hkk⟩ := ex5 k
   simp only [hkc, hkt, hkm, hkl3, hkk] at a0 a1 a2 a3 a4 v1
   obtain ⟨lc, hlc⟩ := exq l.cls
   obtain ⟨lt, hlt'⟩ : ∃ lt, l.tag = lt := ⟨_, rfl⟩
   obtain ⟨lm, hlm⟩ := exq l.made
   obtain ⟨ll, hll⟩ := exq l.bytes.length
   obtain ⟨lk, hlk⟩ := exq l.kids.length
   simp only [hlc, hlt', hlm, hll, hlk] at b0 b1 b2 b3 b4 v2
   have Hcall := h_ (cmp_all n f S S k l wr.drew _ _ x y (v1.below (Below.refl _ _).drew) (v2.below (Below.refl _ _).drew) hkw hlw hkx hly)
   unfold dcells at Hcall
   obtain ⟨d1, d1n⟩ := ltLV 0 0 I
   have i0 : (0 : Int) ≤ (I : Int) := by omega
   have i1 : (I : Int) < (K : Int) := by omega
   have j0 : (0 : Int) ≤ (J : Int) := by omega
   have j1 : (J : Int) < (K : Int) := by omega
   have uJ : IntKind.i64.wrap (J : Int) = (J : Int) := IntWalk.i64_in _ (by omega)
   have HIJ := h_ hIJ
   have HL : Hid (decide (cb x y < 0) = lessP x y) := cb_less x y
   obtain ⟨r, hr⟩ := exq (cb x y)
   rw [hr] at Hcall HL
   have HHx := h_ hx
   have HHy := h_ hy
   have HCells : Hid (∀ w', Below wr.heap.size wr w' → w'.cell? ⟨ba, oa + I * 5, none⟩ = some (.int .i64 kc) ∧ w'.cell? ⟨ba, oa + I * 5 + 1, none⟩ = some (.int .i64 kt) ∧ w'.cell? ⟨ba, oa + I * 5 + 2, none⟩ = some (.bool km) ∧ w'.cell? ⟨ba, oa + I * 5 + 3, none⟩ = some (.slice p1 kl q1) ∧ w'.cell? ⟨ba, oa + I * 5 + 4, none⟩ = some (.slice p2 kn q2) ∧ w'.cell? ⟨ba, oa + J * 5, none⟩ = some (.int .i64 lc) ∧ w'.cell? ⟨ba, oa + J * 5 + 1, none⟩ = some (.int .i64 lt) ∧ w'.cell? ⟨ba, oa + J * 5 + 2, none⟩ = some (.bool lm) ∧ w'.cell? ⟨ba, oa + J * 5 + 3, none⟩ = some (.slice r1 ll t1) ∧ w'.cell? ⟨ba, oa + J * 5 + 4, none⟩ = some (.slice r2 lk t2)) := fun w' hb => by
    obtain ⟨m0, m1, m2, m3, m4⟩ := (g1.below hb).five
    obtain ⟨o0, o1, o2, o3, o4⟩ := (g2.below hb).five
    simp only [hkc, hkt, hkm, hkl3, hkk] at m0 m1 m2 m3 m4
    simp only [hlc, hlt', hlm, hll, hlk] at o0 o1 o2 o3 o4
    exact ⟨m0, m1, m2, m3, m4, o0, o1, o2, o3, o4⟩
   clear g1 g2 v1 v2 hkw hkx hlw hly hkc hkt hkm hkl3 hkk hlc hlt' hlm hll hlk HG hIJ hIK hr hx hy hk1' hk2' hpos
   go_wp2
   go_region_held3 (fun w' => w'.cell? ⟨ba, oa + I * 5, none⟩ = some (.int .i64 kc) ∧ w'.cell? ⟨ba, oa + I * 5 + 1, none⟩ = some (.int .i64 kt) ∧ w'.cell? ⟨ba, oa + I * 5 + 2, none⟩ = some (.bool km) ∧ w'.cell? ⟨ba, oa + I * 5 + 3, none⟩ = some (.slice p1 kl q1) ∧ w'.cell? ⟨ba, oa + I * 5 + 4, none⟩ = some (.slice p2 kn q2) ∧ w'.cell? ⟨ba, oa + J * 5, none⟩ = some (.int .i64 lc) ∧ w'.cell? ⟨ba, oa + J * 5 + 1, none⟩ = some (.int .i64 lt) ∧ w'.cell? ⟨ba, oa + J * 5 + 2, none⟩ = some (.bool lm) ∧ w'.cell? ⟨ba, oa + J * 5 + 3, none⟩ = some (.slice r1 ll t1) ∧ w'.cell? ⟨ba, oa + J * 5 + 4, none⟩ = some (.slice r2 lk t2)) (first | go_keep | trivial)
    ((first
      | (go_at_call 193
         refine Hcall.mono ?_
         rintro e w7 ⟨rfl, hb7⟩
         have HB7 := h_ (HB.drew.trans (hb7.mono HB.drew.size))
         obtain ⟨n0, n1, n2, n3, n4, n5, n6, n7, n8, n9⟩ := u_ HCells w7 ((Below.refl _ _).drew.trans hb7)
         clear hb7)))
   clear n0 n1 n2 n3 n4 n5 n6 n7 n8 n9 a0 a1 a2 a3 a4 b0 b1 b2 b3 b4 HCells Hcall
   by_cases hr0 : r < 0
   ·have e0 : decide (r < 0) = true := by simp [hr0]
    have HT : Hid (fallsP xs = true) := by
     have h1 := u_ HL
     rw [e0] at h1
     exact (falls_at xs).2 ⟨J, y, x, u_ HHy, by rw [← u_ HIJ]; exact u_ HHx, h1.symm⟩
    clear HL
    go_wp2
    go_ret
    exact ⟨by rw [u_ HT]; rfl, u_ HB7⟩
   ·have e0 : decide (r < 0) = false := by simp; omega
    have HE2 : Hid (∀ (j : Nat) (a b : Bs), (J : Int) ≤ (j : Int) → xs[j]? = some a → xs[j + 1]? = some b → lessP b a = false) := fun j a b hj h1 h2 => by
     by_cases hjJ : j = J
     ·subst hjJ
      rw [u_ HHy] at h1
      rw [← u_ HIJ, u_ HHx] at h2
      cases h1
      cases h2
      rw [← u_ HL, e0]
     ·exact u_ HE j a b (by have := u_ HIJ; omega) h1 h2
    have Hjb : Hid (-1 ≤ (J : Int) ∧ (J : Int) < (K : Int)) := ⟨by omega, by omega⟩
    clear HE HL
    go_wp2
    go_roundw
    case rel =>
     first
      | exact ⟨(J : Int), Hjb.1, Hjb.2, rfl, HE2, HB7⟩
      | exact ⟨⟨(J : Int), Hjb.1, Hjb.2, rfl, HE2, HB7⟩, rfl⟩
    case measure => simp [intOf]; omega
  ·have d1 : decide ((0 : Int) < kk) = false := by simp; omega
   have HT : Hid (fallsP xs = false) := falls_none (fun j a b h1 h2 => u_ HE j a b (by omega) h1 h2)
   clear HE hpos
   go_wp2
   go_ret
   exact ⟨by rw [u_ HT]; rfl, u_ HB⟩
theorem fall_all (n : Nat) : FallC n := fun f S ks w x xs hr hw hxs => by
 have H := h_ (sort_c n f S ks w x xs hr hw hxs)
 obtain ⟨sk, ck, e, _⟩ := hr
 subst e
 obtain ⟨K, hK⟩ := exq ks.length
 obtain ⟨u, hu⟩ := exq (fallsP xs)
 rw [hK, hu] at H
 rw [hK, hu]
 clear hw hxs hK hu
 go_enter Tryz.func178, Tryz.ntmps178
 go_wp2_with fail
 refine H.mono ?_
 rintro e w1 ⟨rfl, hb⟩
 have Hb := h_ hb
 clear hb H
 go_wp2
 go_ret
 exact ⟨rfl, u_ Hb⟩
end K
namespace K
theorem form_ok (c t : Nat) (m : Bool) (b : Bs) : formD c t m b = if okT c t m = false then 21 else if m = false ∧ rightC c t b = false then 24 else 0 := by
 unfold formD okT rightC
 by_cases hc : c = 0
 ·rw [if_neg (by omega), if_pos hc, if_pos hc]
  have hdis : madeT t = true → plainT t = false := fun h => by
   unfold madeT at h
   unfold plainT
   simp at h ⊢
   omega
  cases hm : madeT t with
  | false =>
   cases hp : plainT t with
   | false => cases m <;> simp
   | true => cases m <;> cases hr : rightP t b <;> simp
  | true =>
   rw [hdis hm]
   cases m <;> simp
 ·rw [if_pos hc, if_neg hc, if_neg hc]
  simp
theorem write_succ (f : Nat) (c t : Int) (m : Bool) (b : Bs) (ks : List DV) : writeP formD (f + 1) (.mk c t m b ks) =
  if c < 0 ∨ 3 < c ∨ t < 0 ∨ 2097152 ≤ t then .no 21 else
  if formD c.toNat t.toNat m b = 21 then .no 21 else
  if formD c.toNat t.toNat m b ≠ 0 ∨ (m = true ∧ 0 < b.length) ∨ (m = false ∧ 0 < ks.length) then .no 24 else
  match allP (writeP formD f) ks with
  | .no e => .no e
  | .yes bs => if (fallsP bs && decide (c = 0) && decide (t = 17)) = true then .no 25 else .yes (tagB c.toNat t.toNat m ++ lenB (b ++ bs.flatten).length ++ (b ++ bs.flatten)) := by
 show writeP formD (f + 1) (.mk c t m b ks) = _
 unfold writeP
 rfl
def CheckC (f : Nat) : Prop := ∀ (n : Nat) (S : Nat → Prop) (v : DV) (w : World) (cs : List Value) (D : Nat), VAt n S w cs v → weight v ≤ 1000000 → Tabs w → D + f = 17 → Calls Tryz.prog 102 #[.agg cs.toArray, .int .i64 (D : Int)] w fun e w' => e = .returned (.int .i64 (errOf (writeP formD f v) : Int)) ∧ Below w.heap.size w w'
theorem check_zero : CheckC 0 := fun n S v w cs D hv hw hT hD => by
 obtain ⟨s1, c1, s2, c2, e⟩ := hv.form
 obtain ⟨c, t, m, L, K, hc, ht, hm, hL, hK⟩ := ex5 v
 rw [hc, ht, hm, hL, hK] at e
 subst e
 obtain rfl : D = 17 := by omega
 have HE : Hid (errOf (writeP formD 0 v) = 23) := by show _ = _; unfold writeP; rfl
 have Hb : Hid (Below w.heap.size w (w.alloc (.cells #[.int .i64 c, .int .i64 t, .bool m, .slice s1 L c1, .slice s2 K c2] 25))) := (Below.refl _ _).alloc (Nat.le_refl _) _
 clear hv hw hT hD hc ht hm hL hK
 unfold dcells
 go_enter Tryz.func102, Tryz.ntmps102
 go_wp2
 go_ret
 exact ⟨by rw [u_ HE]; rfl, u_ Hb⟩
theorem check_succ (f : Nat) (hf : CheckC f) : CheckC (f + 1) := fun n S v w cs D hv hw hT hD => by
 cases n with
 | zero => exact hv.elim
 | succ n =>
 obtain ⟨c, t, m, bs, ks⟩ := v
 obtain ⟨s1, c1, sk, ck, e⟩ := hv.form
 simp only [DV.cls, DV.tag, DV.made, DV.bytes, DV.kids] at e
 subst e
 have hby : BytesAt w (.slice s1 bs.length c1) bs := by
  obtain ⟨xb, _, _, e, h2, _⟩ := hv
  simp only [dcells, List.cons.injEq] at e
  rw [e.2.2.2.1]
  exact h2
 have hwt : bs.length ≤ 1000000 ∧ weights ks ≤ 1000000 := by simp only [weight] at hw; omega
 have hkl := weights_len ks
 have HBy : Hid (∀ W, Below w.heap.size w W → BytesAt W (.slice s1 bs.length c1) bs) := fun W hb => hby.below hb
 have HRow : Hid (∀ W, Below w.heap.size w W → RowK n S W (.slice sk ks.length ck) ks) := fun W hb => ⟨sk, ck, rfl, fun i k hk => kid_at (hv.below hb) i k hk⟩
 have HT := h_ hT
 have HU := h_ (write_succ f c t m bs ks)
 unfold dcells
 have HF := h_ hf
 have HW := h_ hwt
 obtain ⟨R, hR⟩ := exq (writeP formD (f + 1) (.mk c t m bs ks))
 rw [hR] at HU
 rw [hR]
 obtain ⟨L, hL⟩ := exq bs.length
 obtain ⟨K, hK⟩ := exq ks.length
 have HL := h_ hL
 have HK := h_ hK
 rw [hL] at HBy
 rw [hK] at HRow hkl
 rw [hL, hK]
 obtain ⟨w1, A, hw1, eA, hA⟩ := blkN (Below.refl w.heap.size w) #[.int .i64 c, .int .i64 t, .bool m, .slice s1 L c1, .slice sk K ck] 25
 have k0 := hA.cell 0 _ rfl
 have k1 := hA.cell 1 _ rfl
 have k2 := hA.cell 2 _ rfl
 have k3 := hA.cell 3 _ rfl
 have k4 := hA.cell 4 _ rfl
 have HA := h_ hA
 obtain ⟨dD, dDn⟩ := ltLVf 16 16 D
 clear hA hv hw hT hby hR hL hK hf
 by_cases hbad : c < 0 ∨ 3 < c ∨ t < 0 ∨ 2097152 ≤ t
 ·have HE : Hid (errOf R = 21) := by show _ = _; rw [u_ HU, if_pos hbad]; rfl
  clear HU
  by_cases h1 : c < 0
  ·have e1 : decide (c < 0) = true := by simp; omega
   clear hbad
   go_enter Tryz.func102, Tryz.ntmps102
   go_wp2
   go_ret
   exact ⟨by rw [u_ HE]; rfl, by first | exact HA.b | (rw [← eA]; exact HA.b)⟩
  have e1 : decide (c < 0) = false := by simp; omega
  by_cases h2 : 3 < c
  ·have e2 : decide (3 < c) = true := by simp; omega
   clear hbad
   go_enter Tryz.func102, Tryz.ntmps102
   go_wp2
   go_ret
   exact ⟨by rw [u_ HE]; rfl, by first | exact HA.b | (rw [← eA]; exact HA.b)⟩
  have e2 : decide (3 < c) = false := by simp; omega
  by_cases h3 : t < 0
  ·have e3 : decide (t < 0) = true := by simp; omega
   clear hbad
   go_enter Tryz.func102, Tryz.ntmps102
   go_wp2
   go_ret
   exact ⟨by rw [u_ HE]; rfl, by first | exact HA.b | (rw [← eA]; exact HA.b)⟩
  have e3 : decide (t < 0) = false := by simp; omega
  have e4 : decide (2097151 < t) = true := by simp; omega
  clear hbad
  go_enter Tryz.func102, Tryz.ntmps102
  go_wp2
  go_ret
  exact ⟨by rw [u_ HE]; rfl, by first | exact HA.b | (rw [← eA]; exact HA.b)⟩
 have HU1 : Hid (R = if formD c.toNat t.toNat m bs = 21 then .no 21 else
  if formD c.toNat t.toNat m bs ≠ 0 ∨ (m = true ∧ 0 < bs.length) ∨ (m = false ∧ 0 < ks.length) then .no 24 else
  match allP (writeP formD f) ks with
  | .no e => .no e
  | .yes bs' => if (fallsP bs' && decide (c = 0) && decide (t = 17)) = true then .no 25 else .yes (tagB c.toNat t.toNat m ++ lenB (bs ++ bs'.flatten).length ++ (bs ++ bs'.flatten))) := by show _ = _; rw [u_ HU, if_neg hbad]
 have e1 : decide (c < 0) = false := by simp; omega
 have e2 : decide (3 < c) = false := by simp; omega
 have e3 : decide (t < 0) = false := by simp; omega
 have e4 : decide (2097151 < t) = false := by simp; omega
 obtain ⟨C, hC⟩ : ∃ C : Nat, c = (C : Int) := ⟨c.toNat, by omega⟩
 obtain ⟨T, hTT⟩ : ∃ T : Nat, t = (T : Int) := ⟨t.toNat, by omega⟩
 subst hC hTT
 rw [Int.toNat_natCast, Int.toNat_natCast, form_ok] at HU1
 have hTb : T < 2097152 := by omega
 have Hru := h_ (rule_c C T m s1 sk L c1 K ck w1)
 clear HU hbad
 have g1 : ¬ ((C : Int) < 0) := by omega
 have g3 : ¬ ((T : Int) < 0) := by omega
 go_enter Tryz.func102, Tryz.ntmps102
 go_wp2_with fail
 refine Hru.mono ?_
 rintro e w2 ⟨mm, fb, fk, rfl, hfb, hfk, htold, hb2⟩
 have hA2 := HA.call hb2
 have hQ := Blk.new hA2.b #[.bool false, .nilFunc, .nilFunc] 158
 have hA3 := hA2.lit (.cells #[.bool false, .nilFunc, .nilFunc] 158)
 obtain ⟨w3, hw3⟩ := exq (w2.alloc (.cells #[.bool false, .nilFunc, .nilFunc] 158))
 have hAQ : A ≠ w2.heap.size := by have := hA2.lt; omega
 rw [hw3] at hQ hA3
 obtain ⟨Q, eQ⟩ := exq w2.heap.size
 rw [eQ] at hQ hAQ
 have ofn : ∀ {v : Value}, FnV v → v.oneCell' = true := fun h => by rcases h with rfl | ⟨f, rfl⟩ <;> rfl
 have HO := h_ (one3 (.bool mm) fb fk rfl (ofn hfb) (ofn hfk))
 have HQ := h_ hQ
 have HQ4 := h_ (hQ.set #[.bool mm, fb, fk])
 have HA4 := h_ (hA3.other hQ.ge hAQ #[.bool mm, fb, fk])
 have HTold := h_ htold
 clear hA2 hQ hA3 hb2 htold hfb hfk Hru ofn k0 k1 k2 k3 k4 HA
 obtain ⟨ok, hok⟩ := exq (okT C T m)
 rw [hok] at HU1 ⊢
 have Hok := h_ hok
 clear hok
 go_upto_region 6 with (refine wpList_store_row rfl 158 _ _ rfl Q #[.bool mm, fb, fk] rfl rfl 158 _ HQ.res rule3 rfl (u_ HO) ?_)
 obtain ⟨w4, hw4⟩ := exq (w3.setRow Q #[.bool mm, fb, fk])
 rw [hw4] at HQ4 HA4 ⊢
 have k0 := HA4.cell 0 _ rfl
 have k1 := HA4.cell 1 _ rfl
 have k2 := HA4.cell 2 _ rfl
 have k3 := HA4.cell 3 _ rfl
 have k4 := HA4.cell 4 _ rfl
 have q0 := HQ4.cell 0 _ rfl
 have q1 := HQ4.cell 1 _ rfl
 have q2 := HQ4.cell 2 _ rfl
 clear hw4 hw3 HQ HO
 cases ok with
 | false =>
  have HE : Hid (errOf R = 21) := by show _ = _; rw [u_ HU1]; simp [errOf]
  clear HU1 HTold
  go_wp2
  go_ret
  exact ⟨by rw [u_ HE]; rfl, HA4.b⟩
 | true =>
  have Hb4 : Hid (Below w.heap.size w w4) := HA4.b
  cases m with
  | false =>
   obtain ⟨fn, hfn, hen0, hbf⟩ := (u_ HTold (u_ Hok)).1 rfl
   subst hfn
   have hen : ∀ args W, (callFunc fn args).run Tryz.prog W = .ok (.enter fn args) W := hen0
   clear hen0
   have HU2 : Hid (R = if rightC C T bs = false ∨ 0 < K then .no 24 else .yes (tagB C T false ++ lenB bs.length ++ bs)) := by
    show _ = _
    rw [u_ HU1]
    have hkk := u_ HK
    cases hrc : rightC C T bs with
    | false => simp
    | true =>
     by_cases h0 : 0 < K
     ·simp [h0, hkk]
     ·have hnil : ks = [] := List.eq_nil_of_length_eq_zero (by omega)
      subst hnil
      simp [h0, allP, fallsP]
   clear HU1 HTold
   by_cases h0 : 0 < K
   ·obtain ⟨f1, f1n⟩ := ltLV 0 0 K
    have HE : Hid (errOf R = 24) := by show _ = _; rw [u_ HU2, if_pos (Or.inr h0)]; rfl
    clear HU2 hen hbf
    go_wp2
    go_ret
    exact ⟨by rw [u_ HE]; rfl, u_ Hb4⟩
   obtain ⟨f1, f1n⟩ := ltLVf 0 0 K
   have Hcl := h_ (hbf w4 (.slice s1 L c1) bs (HT.below (u_ Hb4)) (u_ HBy w4 (u_ Hb4)) HW.1)
   obtain ⟨u, hu⟩ := exq (rightC C T bs)
   rw [hu] at Hcl HU2
   clear hbf hu
   go_wp2_with fail
   refine Hcl.mono ?_
   rintro e w5 ⟨rfl, hb5⟩
   have HB5 := h_ (HA4.call hb5).b
   clear hb5 Hcl
   cases u with
   | false =>
    have HE : Hid (errOf R = 24) := by show _ = _; rw [u_ HU2, if_pos (Or.inl rfl)]; rfl
    go_wp2
    go_ret
    exact ⟨by rw [u_ HE]; rfl, u_ HB5⟩
   | true =>
    have HE : Hid (errOf R = 0) := by show _ = _; rw [u_ HU2, if_neg (by simp; omega)]; rfl
    go_wp2
    go_ret
    exact ⟨by rw [u_ HE]; rfl, u_ HB5⟩
  | true =>
   have hkr := (u_ HTold (u_ Hok)).2 rfl
   unfold KidsRule at hkr
   obtain ⟨g, hg⟩ := exq (if C = 0 ∧ T = 17 then 178 else 154)
   rw [hg] at hkr
   subst hkr
   have Hg := h_ hg
   have HU2 : Hid (R = if 0 < L then .no 24 else match allP (writeP formD f) ks with
     | .no e => .no e
     | .yes bs' => if (fallsP bs' && decide (C = 0 ∧ T = 17)) = true then .no 25 else .yes (tagB C T true ++ lenB (bs ++ bs'.flatten).length ++ (bs ++ bs'.flatten))) := by
    show _ = _
    rw [u_ HU1]
    have hll := u_ HL
    by_cases h0 : 0 < L
    ·simp [h0, hll]
    ·have e17 : ∀ bs' : List Bs, (fallsP bs' && decide ((C : Int) = 0) && decide ((T : Int) = 17)) = (fallsP bs' && decide (C = 0 ∧ T = 17)) := fun bs' => by
      rw [Bool.and_assoc, ← Bool.decide_and]
      congr 2
      exact propext ⟨fun h => ⟨by omega, by omega⟩, fun h => ⟨by omega, by omega⟩⟩
     simp only [e17]
     simp [h0, hll]
   clear HU1 HTold hg
   by_cases h0 : 0 < L
   ·obtain ⟨f1, f1n⟩ := ltLV 0 0 L
    have HE : Hid (errOf R = 24) := by show _ = _; rw [u_ HU2, if_pos h0]; rfl
    clear HU2
    go_wp2
    go_ret
    exact ⟨by rw [u_ HE]; rfl, u_ Hb4⟩
   obtain ⟨f1, f1n⟩ := ltLVf 0 0 L
   obtain ⟨D1, hD1⟩ := exq (D + 1)
   have eD1 : (D : Int) + 1 = (D1 : Int) := by omega
   have uD1 : IntKind.i64.wrap (D1 : Int) = (D1 : Int) := IntWalk.i64_in _ (by omega)
   have HGk : Hid (∀ (i : Nat) (wr : World), i < K → Below w.heap.size w wr → ∃ (k : DV) (ba oa : Nat) (ds : List Value), sk = some ⟨ba, oa, none⟩ ∧ ks[i]? = some k ∧ CellsAt wr ba (oa + i * 5) ds ∧ VAt n S wr ds k ∧ weight k ≤ 1000000) := fun i wr hi hb => by
    have hi2 : i < ks.length := by rw [u_ HK]; exact hi
    have hik : ks[i]? = some ks[i] := List.getElem?_eq_getElem hi2
    obtain ⟨sk', ck', e, h⟩ := u_ HRow wr hb
    simp only [Value.slice.injEq] at e
    obtain ⟨rfl, _, _⟩ := e
    obtain ⟨ba, oa, ds, q1, q2, q3⟩ := h i _ hik
    have := weight_kid hik
    exact ⟨_, ba, oa, ds, q1, hik, q2, q3, by have := HW.2; omega⟩
   have HU3 : Hid (R = match allP (writeP formD f) ks with
     | .no e => .no e
     | .yes bs' => if (fallsP bs' && decide (C = 0 ∧ T = 17)) = true then .no 25 else .yes (tagB C T true ++ lenB (bs ++ bs'.flatten).length ++ (bs ++ bs'.flatten))) := by show _ = _; rw [u_ HU2, if_neg h0]
   have HD1 := h_ hD1
   clear HU2 hD1
   go_wp2
   go_loopw [59] (fun ii wr => ∃ (i : Nat) (dn : List Bs), i ≤ K ∧ ii = .int .i64 (i : Int) ∧ Hid (allP (writeP formD f) ks = prepA dn (allP (writeP formD f) (ks.drop i))) ∧ Hid (Blk w wr A #[.int .i64 (C : Int), .int .i64 (T : Int), .bool true, .slice s1 L c1, .slice sk K ck] 25) ∧ Hid (Blk w wr Q #[.bool mm, fb, .func (.func g) #[] #[]] 158)) (fun ii _ => K - (intOf ii).toNat)
   case atStart => exact ⟨0, [], by omega, rfl, by show _ = _; rw [prepA_nil, List.drop_zero], HA4, HQ4⟩
   case round =>
    obtain ⟨i, dn, hi, rfl, HEq, HA5, HQ5⟩ := hrel
    clear k0 k1 k2 k3 k4 q0 q1 q2 HA4 HQ4 Hb4
    by_cases hlt : i < K
    ·obtain ⟨k, ba, oa, ds, rfl, hik, g1, v1, hkw⟩ := u_ HGk i wr hlt HA5.b
     obtain ⟨p1, q1, p2, q2, rfl⟩ := v1.form
     obtain ⟨x0, x1, x2, x3, x4⟩ := g1.five
     obtain ⟨d1, d1n⟩ := ltVV i K
     have i0 : (0 : Int) ≤ (i : Int) := by omega
     have i1 : (i : Int) < (K : Int) := by omega
     obtain ⟨kc, kt, km, kl, kn, hkc, hkt, hkm, hkl3, hkk⟩ := ex5 k
     simp only [hkc, hkt, hkm, hkl3, hkk] at x0 x1 x2 x3 x4 v1
     have hCk := Blk.new HA5.b #[.int .i64 kc, .int .i64 kt, .bool km, .slice p1 kl q1, .slice p2 kn q2] 25
     have hb6 : Below wr.heap.size wr (wr.alloc (.cells #[.int .i64 kc, .int .i64 kt, .bool km, .slice p1 kl q1, .slice p2 kn q2] 25)) := (Below.refl _ _).alloc (Nat.le_refl _) _
     have hA6 := HA5.call hb6
     have hQ6 := HQ5.call hb6
     obtain ⟨w6, hw6⟩ := exq (wr.alloc (.cells #[.int .i64 kc, .int .i64 kt, .bool km, .slice p1 kl q1, .slice p2 kn q2] 25))
     obtain ⟨E, eE⟩ := exq wr.heap.size
     rw [hw6] at hb6 hA6 hQ6 hCk
     rw [eE] at hCk
     have Hck := h_ (u_ HF n S k w6 _ D1 (v1.below hb6) hkw (HT.below hA6.b) (by have := u_ HD1; omega))
     unfold dcells at Hck
     obtain ⟨er, her⟩ := exq (errOf (writeP formD f k))
     rw [her] at Hck
     have y0 := hCk.cell 0 _ rfl
     have y1 := hCk.cell 1 _ rfl
     have y2 := hCk.cell 2 _ rfl
     have y3 := hCk.cell 3 _ rfl
     have y4 := hCk.cell 4 _ rfl
     have HA6 := h_ hA6
     have HQ6 := h_ hQ6
     have HCk := h_ hCk
     have Her := h_ her
     have Hik := h_ hik
     clear hCk hb6 hA6 hQ6 g1 v1 hkw hik her hkc hkt hkm hkl3 hkk HA5 HQ5 HGk
     go_wp2_with fail
     refine Hck.mono ?_
     rintro e w7 ⟨rfl, hb7⟩
     have HA7 := h_ (HA6.call hb7)
     have HQ7 := h_ (HQ6.call hb7)
     clear hb7 Hck x0 x1 x2 x3 x4 y0 y1 y2 y3 y4
     cases hg : writeP formD f k with
     | no e' =>
      have h1 := u_ Her
      rw [hg] at h1
      have h2 : e' = er := h1
      have hne := write_pos formD f k e' hg
      have HE : Hid (errOf R = er) := by
       show _ = _
       rw [u_ HU3, u_ HEq, all_no dn (u_ Hik) hg]
       exact h2
      have z0 : ((er : Int) == 0) = false := by simp; omega
      have z0' : ((er : Int) != 0) = true := by simp; omega
      clear HU3 HEq hg h1 h2 hne
      go_wp2
      go_ret
      exact ⟨by rw [u_ HE]; rfl, HA7.b⟩
     | yes x =>
      have h1 := u_ Her
      rw [hg] at h1
      have h2 : 0 = er := h1
      have HEq2 : Hid (allP (writeP formD f) ks = prepA (dn ++ [x]) (allP (writeP formD f) (ks.drop (i + 1)))) := by show _ = _; rw [u_ HEq, all_yes dn (u_ Hik) hg]
      have z0 : ((er : Int) == 0) = true := by simp; omega
      have z0' : ((er : Int) != 0) = false := by simp; omega
      clear HEq hg h1 h2
      go_wp2
      go_roundw
      case rel =>
       first
        | exact ⟨i + 1, dn ++ [x], by omega, by go_num, HEq2, HA7, HQ7⟩
        | exact ⟨⟨i + 1, dn ++ [x], by omega, by go_num, HEq2, HA7, HQ7⟩, rfl⟩
      case measure => simp [intOf]; omega
    ·have hiK : i = ks.length := by rw [u_ HK]; omega
     have HAll : Hid (allP (writeP formD f) ks = .yes dn) := by show _ = _; rw [u_ HEq, hiK, all_done]
     obtain ⟨d1, d1n⟩ := ltVVf i K
     have HU4 : Hid (errOf R = if (fallsP dn && decide (C = 0 ∧ T = 17)) = true then 25 else 0) := by
      show _ = _
      rw [u_ HU3, u_ HAll]
      show errOf (if (fallsP dn && decide (C = 0 ∧ T = 17)) = true then _ else _) = _
      split <;> rfl
     have k4 := HA5.cell 4 _ rfl
     have q2 := HQ5.cell 2 _ rfl
     clear hiK HEq HU3
     by_cases h17 : C = 0 ∧ T = 17
     ·have hgv : g = 178 := by rw [← u_ Hg, if_pos h17]
      have HU5 : Hid (errOf R = if fallsP dn = true then 25 else 0) := by show _ = _; rw [u_ HU4, decide_eq_true h17, Bool.and_true]
      have Hfa := h_ (fall_all n f S ks wr _ dn (u_ HRow wr HA5.b) HW.2 (u_ HAll))
      obtain ⟨u, hu⟩ := exq (fallsP dn)
      rw [hu] at Hfa HU5
      subst hgv
      clear HU4 h17 hu HAll
      go_wp2_with fail
      refine Hfa.mono ?_
      rintro e w8 ⟨rfl, hb8⟩
      have HB8 := h_ (HA5.call hb8).b
      clear hb8 Hfa
      cases u with
      | false =>
       have HE : Hid (errOf R = 0) := by show _ = _; rw [u_ HU5]; rfl
       go_wp2
       go_ret
       exact ⟨by rw [u_ HE]; rfl, u_ HB8⟩
      | true =>
       have HE : Hid (errOf R = 25) := by show _ = _; rw [u_ HU5]; rfl
       go_wp2
       go_ret
       exact ⟨by rw [u_ HE]; rfl, u_ HB8⟩
     ·have hgv : g = 154 := by rw [← u_ Hg, if_neg h17]
      have HE : Hid (errOf R = 0) := by show _ = _; rw [u_ HU4, decide_eq_false h17, Bool.and_false]; rfl
      have Hfa := h_ (anyk_c wr (.slice sk K ck))
      subst hgv
      clear HU4 h17 HAll
      go_wp2_with fail
      refine Hfa.mono ?_
      rintro e w8 ⟨rfl, hb8⟩
      have HB8 := h_ (HA5.call hb8).b
      clear hb8 Hfa
      go_wp2
      go_ret
      exact ⟨by rw [u_ HE]; rfl, u_ HB8⟩
theorem check_all : ∀ f, CheckC f
 | 0 => check_zero
 | f + 1 => check_succ f (check_all f)
end K
end Go.Proofs.YtcofnockikninaaGreatDoor
