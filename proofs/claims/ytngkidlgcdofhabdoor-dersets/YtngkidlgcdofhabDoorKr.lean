/-
  The walks of the landed inner and size: how many bytes a right value has.
-/
import Derived.Test.YtngkidlgcdofhabDoorKo
namespace Go.Proofs.YtngkidlgcdofhabDoor
open Go.RowKit
namespace K
/-- What a right value's bytes are put together of: its head, a length, what stands in it. -/
def Body (v : DV) (W : Bs) (N : Nat) (X : Bs) : Prop := W = tagB v.cls.toNat v.tag.toNat v.made ++ lenB N ++ X ∧ X.length = N
theorem all_get {g : DV → Told Bs} : ∀ {ks : List DV} {bs : List Bs}, allP g ks = .yes bs → bs.length = ks.length ∧ ∀ (i : Nat) (k : DV), ks[i]? = some k → ∃ x, bs[i]? = some x ∧ g k = .yes x
  | [], bs, h => by
    unfold allP at h
    cases h
    exact ⟨rfl, fun i k hk => by simp at hk⟩
  | v :: l, bs, h => by
    unfold allP at h
    split at h
    · cases h
    · rename_i b hb
      split at h
      · cases h
      · rename_i bs' hbs
        cases h
        obtain ⟨h1, h2⟩ := all_get hbs
        refine ⟨by simp [h1], fun i k hk => ?_⟩
        match i, hk with
        | 0, hk => simp at hk; subst hk; exact ⟨b, rfl, hb⟩
        | i + 1, hk => exact h2 i k (by simpa using hk)
theorem flat_take {bs : List Bs} {i : Nat} {x : Bs} (h : bs[i]? = some x) : (bs.take (i + 1)).flatten.length = (bs.take i).flatten.length + x.length := by
  rw [List.take_add_one, h, List.flatten_append, List.length_append]
  simp
def InnerC (n : Nat) : Prop := ∀ (f : Nat) (S : Nat → Prop) (v : DV) (w : World) (cs : List Value) (W : Bs), VAt n S w cs v → weight v ≤ 1000000 → writeP formD f v = .yes W → Calls Tryd.prog 21 #[.agg cs.toArray] w fun e w' => ∃ (N : Nat) (X : Bs), e = .returned (.int .i64 (N : Int)) ∧ Body v W N X ∧ N ≤ 9000000 ∧ Below w.heap.size w w'
def SizeC (n : Nat) : Prop := ∀ (f : Nat) (S : Nat → Prop) (v : DV) (w : World) (cs : List Value) (W : Bs), VAt n S w cs v → weight v ≤ 1000000 → writeP formD f v = .yes W → Calls Tryd.prog 17 #[.agg cs.toArray] w fun e w' => e = .returned (.int .i64 (W.length : Int)) ∧ Below w.heap.size w w'
/-- The numbers of a right value. -/
theorem right_nums {f : Nat} {v : DV} {W : Bs} (h : writeP formD f v = .yes W) : ∃ c t : Nat, v.cls = (c : Int) ∧ v.tag = (t : Int) ∧ c ≤ 3 ∧ t < 2097152 := by
  cases f with
  | zero => simp [writeP] at h
  | succ f =>
    obtain ⟨c, t, m, b, ks⟩ := v
    obtain ⟨h1, h2, h3, h4, _⟩ := write_open h
    exact ⟨c.toNat, t.toNat, by show c = _; omega, by show t = _; omega, by omega, by omega⟩
set_option maxRecDepth 100000 in
set_option maxHeartbeats 4000000 in
theorem size_step (n : Nat) (hin : InnerC n) : SizeC n := fun f S v w cs W hv hw hW => by
  obtain ⟨c, t, hc, ht, hc3, ht2⟩ := right_nums hW
  obtain ⟨s1, c1, s2, c2, hcs⟩ := hv.form
  have hout := out_le f v W hw hW
  obtain ⟨L, hL⟩ : ∃ L, v.bytes.length = L := ⟨_, rfl⟩
  obtain ⟨K, hK⟩ : ∃ K, v.kids.length = K := ⟨_, rfl⟩
  obtain ⟨m, hm⟩ : ∃ m, v.made = m := ⟨_, rfl⟩
  rw [hc, ht, hm, hL, hK] at hcs
  subst hcs
  have hb : ∀ N X, Body v W N X → W = tagB c t m ++ lenB N ++ X ∧ X.length = N := fun N X h => by
    unfold Body at h
    rw [hc, ht, hm] at h
    exact h
  have HB := hide hb
  unfold dcells
  have hA := Blk.new (Below.refl w.heap.size w) #[.int .i64 (c : Int), .int .i64 (t : Int), .bool m, .slice s1 L c1, .slice s2 K c2] 26
  obtain ⟨w1, hw1⟩ : ∃ w1, w.alloc (.cells #[.int .i64 (c : Int), .int .i64 (t : Int), .bool m, .slice s1 L c1, .slice s2 K c2] 26) = w1 := ⟨_, rfl⟩
  obtain ⟨A, eA⟩ : ∃ A, w.heap.size = A := ⟨_, rfl⟩
  rw [hw1, eA] at hA
  have Hin := hide (hin f S v w1 _ W (hv.below hA.b) hw hW)
  unfold dcells at Hin
  have k0 := hA.cell 0 _ rfl
  have k1 := hA.cell 1 _ rfl
  have k2 := hA.cell 2 _ rfl
  have k3 := hA.cell 3 _ rfl
  have k4 := hA.cell 4 _ rfl
  have HA := hide hA
  have Hout := hide hout
  obtain ⟨WL, hWL⟩ : ∃ WL, W.length = WL := ⟨_, rfl⟩
  rw [hWL]
  have HWL := hide hWL
  clear hA hv hW hout hb hL hK hm hc ht hWL
  go_enter Tryd.func17, Tryd.ntmps17
  go_wp2_with fail
  refine (unhide Hin).mono ?_
  rintro e w2 ⟨N, X, rfl, hbody, hN, hb2⟩
  have hA2 := (unhide HA).call hb2
  have j0 := hA2.cell 0 _ rfl
  have j1 := hA2.cell 1 _ rfl
  have j2 := hA2.cell 2 _ rfl
  have j3 := hA2.cell 3 _ rfl
  have j4 := hA2.cell 4 _ rfl
  have Hh := hide (head_c c t N m s1 s2 L c1 K c2 w2 hc3 ht2 (by omega))
  unfold GivesB at Hh
  obtain ⟨hWe, hX⟩ := unhide HB N X hbody
  obtain ⟨HL, hHL⟩ : ∃ HL, (tagB c t m ++ lenB N).length = HL := ⟨_, rfl⟩
  have hsum : HL + N = W.length := by rw [hWe, List.length_append, hHL, hX]
  have hwl : W.length ≤ 9000000 := by have := unhide Hout; omega
  have HHL := hide hHL
  have Hsum := hide hsum
  have HA2 := hide hA2
  have hWL := unhide HWL
  have eS : (HL : Int) + (N : Int) = (WL : Int) := by omega
  have uS : IntKind.i64.wrap (WL : Int) = (WL : Int) := IntWalk.i64_in _ (by omega)
  clear hA2 hb2 hbody hWe hX hHL hsum hwl Hin k0 k1 k2 k3 k4 hWL
  go_wp2_with fail
  refine (unhide Hh).mono ?_
  rintro e w3 ⟨v3, rfl, hR3⟩
  obtain ⟨s3, c3, hv3⟩ := hR3.own.form
  rw [unhide HHL] at hv3
  subst hv3
  have HR3 := hide hR3
  clear hR3 Hh
  go_wp2
  go_ret
  exact ⟨rfl, (unhide HA2).b.trans ((unhide HR3).b.mono (unhide HA2).b.size)⟩
/-- The kids of a value that lies in memory, one by one. -/
theorem kid_at {n : Nat} {S : Nat → Prop} {w : World} {c t : Int} {md : Bool} {bs : Bs} {ks : List DV} {xb : Value} {sk : Option Addr} {ck : Nat} (hv : VAt (n + 1) S w (dcells c t md xb (.slice sk ks.length ck)) (.mk c t md bs ks)) (i : Nat) (k : DV) (hk : ks[i]? = some k) :
    ∃ (ba oa : Nat) (ds : List Value), sk = some ⟨ba, oa, none⟩ ∧ CellsAt w ba (oa + i * 5) ds ∧ VAt n S w ds k := by
  obtain ⟨xb', sk', ck', e, _, _, _, _, _, h5⟩ := hv
  simp only [dcells, DV.cls, DV.tag, DV.made, DV.kids, List.cons.injEq, Value.slice.injEq, and_true, true_and] at e
  obtain ⟨_, rfl, rfl⟩ := e
  obtain ⟨b, o, rfl, _, hi⟩ := h5 (fun e => by rw [show ks = [] from e] at hk; simp at hk)
  obtain ⟨ds, h1, h2⟩ := hi i k hk
  exact ⟨b, o, ds, rfl, h1, h2⟩
set_option maxRecDepth 100000 in
set_option maxHeartbeats 8000000 in
theorem inner_step (n : Nat) (hsz : SizeC n) : InnerC (n + 1) := fun f S v w cs W hv hw hW => by
  obtain ⟨c, t, md, bs, ks⟩ := v
  cases f with
  | zero => simp [writeP] at hW
  | succ f =>
  obtain ⟨_, _, _, _, _, _, _, xs, hxs, _, hWe⟩ := write_open hW
  obtain ⟨hxl, hxg⟩ := all_get hxs
  have hout := outs_le f ks xs (by simp only [weight] at hw; omega) hxs
  obtain ⟨xb, sk, ck, hcs, _⟩ : ∃ xb sk ck, cs = dcells c t md xb (.slice sk ks.length ck) ∧ BytesAt w xb bs := by
    obtain ⟨xb, sk, ck, e, h1, _⟩ := hv
    exact ⟨xb, sk, ck, e, h1⟩
  obtain ⟨s1, c1, s2, c2, hf⟩ := hv.form
  rw [hcs] at hf
  simp only [dcells, DV.cls, DV.tag, DV.made, DV.bytes, DV.kids, List.cons.injEq, Value.slice.injEq, and_true, true_and] at hf
  obtain ⟨rfl, rfl, rfl⟩ := hf
  subst hcs
  have hwt : bs.length ≤ 1000000 ∧ weights ks ≤ 1000000 ∧ bs.length + weights ks ≤ 1000000 := by simp only [weight] at hw; omega
  have hkl := weights_len ks
  have HK : Hid (∀ (i : Nat) (wr : World), i < ks.length → Below w.heap.size w wr → ∃ (k : DV) (ba oa : Nat) (ds : List Value) (x : Bs), sk = some ⟨ba, oa, none⟩ ∧ xs[i]? = some x ∧ CellsAt wr ba (oa + i * 5) ds ∧ VAt n S wr ds k ∧ weight k ≤ 1000000 ∧ writeP formD f k = .yes x) := fun i wr hi hb => by
    have hik : ks[i]? = some ks[i] := List.getElem?_eq_getElem hi
    obtain ⟨ba, oa, ds, e1, h1, h2⟩ := kid_at hv i _ hik
    obtain ⟨x, hx, hg⟩ := hxg i _ hik
    have := weight_kid hik
    exact ⟨_, ba, oa, ds, x, e1, hx, h1.below hb, h2.below hb, by omega, hg⟩
  have HBody : Hid (Body (.mk c t md bs ks) W (bs.length + xs.flatten.length) (bs ++ xs.flatten)) := by
    refine ⟨?_, by rw [List.length_append]⟩
    rw [hWe, List.length_append]
    rfl
  have Hle : Hid (∀ i, (xs.take i).flatten.length ≤ xs.flatten.length) := fun i => by
    have h1 : xs.flatten.length = (xs.take i).flatten.length + (xs.drop i).flatten.length := by
      rw [← List.length_append, ← List.flatten_append, List.take_append_drop]
    omega
  have Hxl := hide hxl
  unfold dcells
  obtain ⟨L, hL⟩ : ∃ L, bs.length = L := ⟨_, rfl⟩
  obtain ⟨K, hK⟩ : ∃ K, ks.length = K := ⟨_, rfl⟩
  obtain ⟨XL, hXL⟩ : ∃ XL, xs.flatten.length = XL := ⟨_, rfl⟩
  rw [hL, hXL] at HBody
  rw [hXL] at Hle hout
  rw [hK] at HK hkl Hxl
  rw [hL, hK]
  rw [hL] at hwt
  have hXLb : XL ≤ 9 * (1000000 - L) := by omega
  have hA := Blk.new (Below.refl w.heap.size w) #[.int .i64 c, .int .i64 t, .bool md, .slice s1 L c1, .slice sk K ck] 26
  obtain ⟨w1, hw1⟩ : ∃ w1, w.alloc (.cells #[.int .i64 c, .int .i64 t, .bool md, .slice s1 L c1, .slice sk K ck] 26) = w1 := ⟨_, rfl⟩
  obtain ⟨A, eA⟩ : ∃ A, w.heap.size = A := ⟨_, rfl⟩
  rw [hw1, eA] at hA
  have k3 := hA.cell 3 _ rfl
  have k4 := hA.cell 4 _ rfl
  have HA := hide hA
  have HXL := hide hXL
  have Hsz := hide hsz
  clear hA hv hW hout hWe hxs hxg hxl hw hL hK hXL hsz
  go_enter Tryd.func21, Tryd.ntmps21
  go_wp2
  go_loopw [3, 12] (fun nn ii wr => ∃ (i N : Nat), i ≤ K ∧ nn = .int .i64 (N : Int) ∧ ii = .int .i64 (i : Int) ∧ N ≤ 9000000 ∧ Hid (N = L + (xs.take i).flatten.length) ∧ Hid (Below w.heap.size w wr)) (fun _ ii _ => K - (intOf ii).toNat)
  case atStart => exact ⟨0, L, by omega, rfl, rfl, by omega, by show L = _; simp, (unhide HA).b⟩
  case round =>
    obtain ⟨i, N, hi, rfl, rfl, hN, HN, HB⟩ := hrel
    clear k3 k4
    by_cases hlt : i < K
    · obtain ⟨k, ba, oa, ds, x, rfl, hx, g1, v1, hkw, hkx⟩ := unhide HK i wr hlt (unhide HB)
      obtain ⟨p1, q1, p2, q2, rfl⟩ := v1.form
      obtain ⟨x0, x1, x2, x3, x4⟩ := g1.five
      have hN2 : N + x.length = L + (xs.take (i + 1)).flatten.length := by rw [flat_take hx, unhide HN]; omega
      have hle2 := unhide Hle (i + 1)
      obtain ⟨xl, hxl⟩ : ∃ xl, x.length = xl := ⟨_, rfl⟩
      obtain ⟨N2, hN2e⟩ : ∃ N2, N + xl = N2 := ⟨_, rfl⟩
      have HN2 : Hid (N2 = L + (xs.take (i + 1)).flatten.length) := by show _ = _; omega
      have eN2 : (N : Int) + (xl : Int) = (N2 : Int) := by omega
      have hN2b : N2 ≤ 9000000 := by omega
      have uN2 : IntKind.i64.wrap (N2 : Int) = (N2 : Int) := IntWalk.i64_in _ (by omega)
      have d1 : decide ((i : Int) < (K : Int)) = true := by simp; omega
      have d1n : decide (i < K) = true := by simp; omega
      have i0 : (0 : Int) ≤ (i : Int) := by omega
      have i1 : (i : Int) < (K : Int) := by omega
      obtain ⟨kc, hkc⟩ : ∃ kc, k.cls = kc := ⟨_, rfl⟩
      obtain ⟨kt, hkt⟩ : ∃ kt, k.tag = kt := ⟨_, rfl⟩
      obtain ⟨km, hkm⟩ : ∃ km, k.made = km := ⟨_, rfl⟩
      obtain ⟨kl, hkl3⟩ : ∃ kl, k.bytes.length = kl := ⟨_, rfl⟩
      obtain ⟨kk, hkk⟩ : ∃ kk, k.kids.length = kk := ⟨_, rfl⟩
      simp only [hkc, hkt, hkm, hkl3, hkk] at x0 x1 x2 x3 x4 v1
      have hC := Blk.new (unhide HB) #[.int .i64 kc, .int .i64 kt, .bool km, .slice p1 kl q1, .slice p2 kk q2] 26
      obtain ⟨w5, hw5⟩ : ∃ w5, wr.alloc (.cells #[.int .i64 kc, .int .i64 kt, .bool km, .slice p1 kl q1, .slice p2 kk q2] 26) = w5 := ⟨_, rfl⟩
      obtain ⟨C, eC⟩ : ∃ C, wr.heap.size = C := ⟨_, rfl⟩
      have hb5 : Below wr.heap.size wr w5 := by rw [← hw5]; exact (Below.refl _ _).alloc (Nat.le_refl _) _
      have Hc := hide (unhide Hsz f S k w5 _ x (v1.below hb5) hkw hkx)
      rw [hxl] at Hc
      unfold dcells at Hc
      rw [hw5, eC] at hC
      have y0 := hC.cell 0 _ rfl
      have y1 := hC.cell 1 _ rfl
      have y2 := hC.cell 2 _ rfl
      have y3 := hC.cell 3 _ rfl
      have y4 := hC.cell 4 _ rfl
      have HC := hide hC
      clear hC g1 v1 hkw hkx hkc hkt hkm hkl3 hkk HN hN2 hle2 hN2e hb5 hx hxl HK HB
      go_wp2_with fail
      refine (unhide Hc).mono ?_
      rintro e w6 ⟨rfl, hb6⟩
      have HB6 := hide ((unhide HC).call hb6).b
      clear hb6 Hc y0 y1 y2 y3 y4 x0 x1 x2 x3 x4
      go_wp2
      go_roundw
      case rel =>
        first
          | exact ⟨i + 1, N2, by omega, rfl, by go_num, hN2b, HN2, HB6⟩
          | exact ⟨⟨i + 1, N2, by omega, rfl, by go_num, hN2b, HN2, HB6⟩, rfl⟩
      case measure => simp [intOf]; omega
    · have hiK : i = K := by omega
      have HN2 : Hid (N = L + XL) := by
        show _ = _
        rw [unhide HN, List.take_of_length_le (by rw [unhide Hxl]; omega), unhide HXL]
      have d1 : decide ((i : Int) < (K : Int)) = false := by simp; omega
      have d1n : decide (i < K) = false := by simp; omega
      clear hiK HN
      go_wp2
      go_ret
      exact ⟨N, bs ++ xs.flatten, rfl, by rw [unhide HN2]; exact unhide HBody, hN, unhide HB⟩
theorem inner_all : ∀ n, InnerC n
  | 0 => fun _ _ _ _ _ _ h => h.elim
  | n + 1 => inner_step n (size_step n (inner_all n))
theorem size_all (n : Nat) : SizeC n := size_step n (inner_all n)
end K
end Go.Proofs.YtngkidlgcdofhabDoor
