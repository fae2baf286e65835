/-
  The walk of Same: whether two slices hold the same bytes.
-/
import Derived.Test.YtlhjifdahagkaaaDoorM01
import Derived.Test.YtlhjifdahagkaaaDoorM02
import Derived.Lib.AppendZeros
namespace Go.Proofs.YtlhjifdahagkaaaDoor
open Go.RowKit
theorem take_eq_succ {a b : Bs} {k : Nat} (h : a.take k = b.take k) (ha : k < a.length) (hb : k < b.length) (he : (a.getD k 0).toNat = (b.getD k 0).toNat) : a.take (k + 1) = b.take (k + 1) := by
  have e : a[k] = b[k] := by
    apply UInt8.toNat_inj.1
    simpa [List.getD_eq_getElem?_getD, ha, hb] using he
  rw [List.take_add_one, List.take_add_one, h, List.getElem?_eq_getElem ha, List.getElem?_eq_getElem hb, e]
set_option maxRecDepth 100000 in
set_option maxHeartbeats 1000000 in
theorem same_any (w : World) (x y : Value) (a b : Bs) (hx : BytesAt w x a) (hy : BytesAt w y b) (hl : a.length ≤ 1099511627776) :
    Calls Tryd.prog 14 #[x, y] w fun e w' => e = .returned (.bool (decide (a = b))) ∧ Below w.heap.size w w' := by
  obtain ⟨sp, c, rfl, _, _, hc⟩ := bytes_open hx
  obtain ⟨sp2, c2, rfl, _, _, hc2⟩ := bytes_open hy
  have H1 := hide hc
  have H2 := hide hc2
  clear hc hc2 hx hy
  go_enter Tryd.func14, Tryd.ntmps14
  by_cases hab : a.length = b.length
  · obtain ⟨N, hN⟩ : ∃ N, a.length = N := ⟨_, rfl⟩
    have hN2 : b.length = N := by omega
    have hNb : N ≤ 1099511627776 := by rw [← hN]; exact hl
    rw [hN] at H1
    rw [hN2] at H2
    rw [hN, hN2]
    have HN := hide hN
    have HN2 := hide hN2
    clear hN hN2 hab
    go_wp2
    go_loopw [5] (fun i wr => ∃ k : Nat, k ≤ N ∧ i = .int .i64 k ∧ wr.heap = w.heap ∧ Hid (a.take k = b.take k) ∧ Below w.heap.size w wr) (fun i _ => N - (intOf i).toNat)
    case atStart => exact ⟨0, by omega, rfl, rfl, rfl, Below.refl _ _⟩
    case round =>
      obtain ⟨k, hk, rfl, hh, HE, hB⟩ := hrel
      by_cases hlt : k < N
      · have hna : a ≠ [] := by intro e; have := unhide HN; rw [e] at this; simp at this; omega
        have hnb : b ≠ [] := by intro e; have := unhide HN2; rw [e] at this; simp at this; omega
        obtain ⟨ba, oa, rfl, _, hcell⟩ := unhide H1 hna
        obtain ⟨bb, ob, rfl, _, hcell2⟩ := unhide H2 hnb
        have c1 : wr.cell? ⟨ba, oa + k, none⟩ = some (.int .u8 ((a.getD k 0).toNat : Int)) := by rw [← hcell k hlt]; unfold World.cell?; rw [hh]
        have c2' : wr.cell? ⟨bb, ob + k, none⟩ = some (.int .u8 ((b.getD k 0).toNat : Int)) := by rw [← hcell2 k hlt]; unfold World.cell?; rw [hh]
        have Ht : Hid ((a.getD k 0).toNat = (b.getD k 0).toNat → a.take (k + 1) = b.take (k + 1)) := fun e => take_eq_succ (unhide HE) (by have := unhide HN; omega) (by have := unhide HN2; omega) e
        have Hf : Hid ((a.getD k 0).toNat ≠ (b.getD k 0).toNat → a ≠ b) := fun e e2 => e (by rw [e2])
        obtain ⟨p, hp⟩ : ∃ p, (a.getD k 0).toNat = p := ⟨_, rfl⟩
        obtain ⟨q, hq⟩ : ∃ q, (b.getD k 0).toNat = q := ⟨_, rfl⟩
        rw [hp] at c1 Ht Hf
        rw [hq] at c2' Ht Hf
        have HB := hide hB
        have Hh := hide hh
        clear hB hh hcell hcell2 hp hq hna hnb
        have k0 : (0 : Int) ≤ (k : Int) := by omega
        have k1 : (k : Int) < (N : Int) := by omega
        by_cases hpq : p = q
        · have Ht2 := hide (unhide Ht hpq)
          have de : ((p : Int) == (q : Int)) = true := by simp [hpq]
          subst hpq
          clear Ht Hf
          go_wp2
          go_region_held3 (fun w' => w'.cell? ⟨ba, oa + k, none⟩ = some (.int .u8 p) ∧ w'.cell? ⟨bb, ob + k, none⟩ = some (.int .u8 p)) (go_keep) (fail)
          go_wp2
          go_roundw
          case rel =>
            first
              | exact ⟨k + 1, by omega, by go_num, unhide Hh, Ht2, (unhide HB).drew⟩
              | ((repeat apply Exists.intro); exact ⟨⟨k + 1, by omega, by go_num, unhide Hh, Ht2, (unhide HB).drew⟩, rfl⟩)
          case measure => simp [intOf]; omega
        · have Hf2 := hide (unhide Hf hpq)
          have de : ((p : Int) == (q : Int)) = false := by simp; omega
          clear Ht Hf hpq
          go_wp2
          go_region_held3 (fun w' => w'.cell? ⟨ba, oa + k, none⟩ = some (.int .u8 p) ∧ w'.cell? ⟨bb, ob + k, none⟩ = some (.int .u8 q)) (go_keep) (fail)
          go_wp2
          go_ret
          exact ⟨by simp [unhide Hf2], (unhide HB).drew⟩
      · have Hf : Hid (a = b) := by
          show _ = _
          have h1 := unhide HE
          rwa [List.take_of_length_le (by have := unhide HN; omega), List.take_of_length_le (by have := unhide HN2; omega)] at h1
        go_wp2
        go_ret
        exact ⟨by simp [unhide Hf], hB⟩
  · have Hf : Hid (a ≠ b) := fun e => hab (by rw [e])
    have de : ((a.length : Int) == (b.length : Int)) = false := by simp; omega
    go_wp2
    go_ret
    exact ⟨by simp [unhide Hf], Below.refl _ _⟩
end Go.Proofs.YtlhjifdahagkaaaDoor
/-
  Lists of slices of bytes in memory; structs in blocks; the walks of the landed four and two.
-/
namespace Go.Proofs.YtlhjifdahagkaaaDoor
open Go.RowKit
/-- The value is a slice whose elements hold these bytes. -/
def LL (w : World) (x : Value) (ls : List Bs) : Prop := ∃ cs : List Value, ValsAt w x cs ∧ cs.length = ls.length ∧ ∀ i, i < ls.length → BytesAt w (cs.getD i undef) (ls.getD i [])
theorem LL.below {a b : World} {x : Value} {ls : List Bs} (h : LL a x ls) (hb : Below a.heap.size a b) : LL b x ls := by
  obtain ⟨cs, h1, h2, h3⟩ := h
  exact ⟨cs, h1.below hb, h2, fun i hi => (h3 i hi).below hb⟩
theorem LL.drew {w : World} {x : Value} {ls : List Bs} (h : LL w x ls) : LL w.drew x ls := h.below (Below.refl _ _).drew
theorem LL.form {w : World} {x : Value} {ls : List Bs} (h : LL w x ls) : ∃ sp c, x = .slice sp ls.length c := by
  obtain ⟨cs, h1, h2, _⟩ := h
  rw [← h2]; exact h1.form
theorem LL.at {w : World} {x : Value} {ls : List Bs} (h : LL w x ls) (i : Nat) (hi : i < ls.length) : ∃ b o c v, x = .slice (some ⟨b, o, none⟩) ls.length c ∧ b < w.heap.size ∧ w.cell? ⟨b, o + i, none⟩ = some v ∧ BytesAt w v (ls.getD i []) := by
  obtain ⟨cs, h1, h2, h3⟩ := h
  obtain ⟨b, o, c, e, _, hb, hc⟩ := h1.cell (fun e => by rw [e] at h2; simp at h2; omega)
  rw [h2] at e hc
  exact ⟨b, o, c, _, e, hb, hc i hi, h3 i hi⟩
theorem ll_new (w : World) (cs : List Value) (ls : List Bs) (t : TypeId) (hl : cs.length = ls.length) (h : ∀ i, i < ls.length → BytesAt w (cs.getD i undef) (ls.getD i [])) : LL (w.alloc (.cells cs.toArray t)) (.slice (some ⟨w.heap.size, 0, none⟩) cs.length cs.length) ls :=
  ⟨cs, vals_new w cs t, hl, fun i hi => (h i hi).below ((Below.refl _ _).alloc (Nat.le_refl _) _)⟩
theorem ll_new1 (w : World) (a : Value) (la : Bs) (t : TypeId) (ha : BytesAt w a la) : LL (w.alloc (.cells #[a] t)) (.slice (some ⟨w.heap.size, 0, none⟩) 1 1) [la] :=
  ll_new w [a] [la] t rfl fun i hi => by
    match i, hi with
    | 0, _ => exact ha
theorem ll_new2 (w : World) (a b : Value) (la lb : Bs) (t : TypeId) (ha : BytesAt w a la) (hb : BytesAt w b lb) : LL (w.alloc (.cells #[a, b] t)) (.slice (some ⟨w.heap.size, 0, none⟩) 2 2) [la, lb] :=
  ll_new w [a, b] [la, lb] t rfl fun i hi => by
    match i, hi with
    | 0, _ => exact ha
    | 1, _ => exact hb
theorem ll_new3 (w : World) (a b c : Value) (la lb lc : Bs) (t : TypeId) (ha : BytesAt w a la) (hb : BytesAt w b lb) (hc : BytesAt w c lc) : LL (w.alloc (.cells #[a, b, c] t)) (.slice (some ⟨w.heap.size, 0, none⟩) 3 3) [la, lb, lc] :=
  ll_new w [a, b, c] [la, lb, lc] t rfl fun i hi => by
    match i, hi with
    | 0, _ => exact ha
    | 1, _ => exact hb
    | 2, _ => exact hc
theorem ll_new4 (w : World) (a b c d : Value) (la lb lc ld : Bs) (t : TypeId) (ha : BytesAt w a la) (hb : BytesAt w b lb) (hc : BytesAt w c lc) (hd : BytesAt w d ld) : LL (w.alloc (.cells #[a, b, c, d] t)) (.slice (some ⟨w.heap.size, 0, none⟩) 4 4) [la, lb, lc, ld] :=
  ll_new w [a, b, c, d] [la, lb, lc, ld] t rfl fun i hi => by
    match i, hi with
    | 0, _ => exact ha
    | 1, _ => exact hb
    | 2, _ => exact hc
    | 3, _ => exact hd
theorem BytesAt.forms {w : World} {x : Value} {l : Bs} (h : BytesAt w x l) : ∃ sp n c, x = .slice sp n c := by
  obtain ⟨sp, c, e, _⟩ := bytes_open h
  exact ⟨sp, _, c, e⟩
theorem BytesAt.set_other {w : World} {x : Value} {l : Bs} (h : BytesAt w x l) (B i : Nat) (v : Value) (hne : x.ownBlock ≠ some B) : BytesAt (w.setCell ⟨B, i, none⟩ v) x l :=
  ValsAt.grown h (grown_setCell (World.grownBy.refl _ _) ⟨B, i, none⟩ v rfl) hne
theorem flat_succ (L : List Bs) (k : Nat) (h : k < L.length) : (L.take (k + 1)).flatten = (L.take k).flatten ++ L.getD k [] := by
  rw [List.take_succ_eq_append_getElem h, List.flatten_append]
  simp [List.getD_eq_getElem?_getD, h]
theorem flat_le (L : List Bs) (k : Nat) : (L.take k).flatten.length ≤ L.flatten.length := by
  have h : L.flatten.length = (L.take k).flatten.length + (L.drop k).flatten.length := by
    rw [← List.length_append, ← List.flatten_append, List.take_append_drop]
  omega
/-- A struct's cells lie at the front of a block. -/
def AggAt (w : World) (K : Nat) (cs : List Value) : Prop := K < w.heap.size ∧ w.rangeAt K 0 cs
theorem AggAt.below {a b : World} {K : Nat} {cs : List Value} (k : AggAt a K cs) (hb : Below a.heap.size a b) : AggAt b K cs :=
  ⟨Nat.lt_of_lt_of_le k.1 hb.size, fun j v hv => by rw [hb.cell (p := ⟨K, 0 + j, none⟩) k.1]; exact k.2 j v hv⟩
theorem AggAt.c {w : World} {K : Nat} {cs : List Value} (k : AggAt w K cs) (j : Nat) (v : Value) (hv : cs[j]? = some v) : w.cell? ⟨K, j, none⟩ = some v := by
  have := k.2 j v hv
  rwa [Nat.zero_add] at this
theorem agg_new (w : World) (cs : List Value) (t : TypeId) : AggAt (w.alloc (.cells cs.toArray t)) w.heap.size cs := by
  refine ⟨by simp, fun j v hv => ?_⟩
  rw [cell_of_row _ _ _ _ t (0, 0) (heap_alloc_new w _), Nat.zero_add]
  simpa using hv
theorem own_new (e : TypeId) (w : World) (cs : List Value) (hm : cs.length ≤ maxLen) : OwnV e (w.alloc (.cells cs.toArray e)) w.heap.size (.slice (some ⟨w.heap.size, 0, none⟩) cs.length cs.length) cs := by
  have h : RowAt e (w.alloc (.cells cs.toArray e)) w.heap.size [] cs := by
    unfold RowAt
    rw [List.append_nil]; exact heap_alloc_new _ _
  exact h.own (Nat.le_refl _) cs.length cs.length rfl rfl hm
theorem row_new (w : World) (l : Bs) (hm : l.length ≤ 1000) : Row w (w.alloc (.cells (l.map bv).toArray 5)) (.slice (some ⟨w.heap.size, 0, none⟩) l.length l.length) l := by
  have h := own_new 5 w (l.map bv) (by rw [List.length_map]; simp only [maxLen]; omega)
  rw [List.length_map] at h
  exact ⟨h, (Below.refl _ _).alloc (Nat.le_refl _) _⟩
theorem big4 (n : Nat) : big n 4 = [UInt8.ofNat (n / 16777216), UInt8.ofNat (n / 65536), UInt8.ofNat (n / 256), UInt8.ofNat n] := by simp [big, List.range_succ]
theorem big2 (n : Nat) : big n 2 = [UInt8.ofNat (n / 256), UInt8.ofNat n] := by simp [big, List.range_succ]
theorem byte_div (n d : Nat) : (n : Int) / (d : Int) % 256 = ((UInt8.ofNat (n / d)).toNat : Int) := by
  rw [UInt8.toNat_ofNat', ← Int.natCast_ediv]
  omega
theorem byte_of (n : Nat) : (n : Int) % 256 = ((UInt8.ofNat n).toNat : Int) := by
  rw [UInt8.toNat_ofNat']
  omega
set_option maxRecDepth 100000 in
set_option maxHeartbeats 1000000 in
theorem four_any (w : World) (n : Nat) (hn : n < 4294967296) : GivesB w 26 #[.int .i64 (n : Int)] (big n 4) := by
  have hn' : (n : Int) < 4294967296 := by omega
  have hn0 : (0 : Int) ≤ (n : Int) := by omega
  have v0 : (n : Int) / 16777216 = ((UInt8.ofNat (n / 16777216)).toNat : Int) := by
    have := byte_div n 16777216
    omega
  have v1 : (n : Int) / 65536 % 256 = ((UInt8.ofNat (n / 65536)).toNat : Int) := byte_div n 65536
  have v2 : (n : Int) / 256 % 256 = ((UInt8.ofNat (n / 256)).toNat : Int) := byte_div n 256
  have v3 := byte_of n
  have Hb := hide (big4 n)
  generalize UInt8.ofNat (n / 16777216) = b0 at v0 Hb
  generalize UInt8.ofNat (n / 65536) = b1 at v1 Hb
  generalize UInt8.ofNat (n / 256) = b2 at v2 Hb
  generalize UInt8.ofNat n = b3 at v3 Hb
  go_enter Tryd.func26, Tryd.ntmps26
  go_wp2
  go_ret
  refine ⟨_, rfl, ?_⟩
  rw [unhide Hb]
  exact row_new w [b0, b1, b2, b3] (by simp)
set_option maxRecDepth 100000 in
set_option maxHeartbeats 1000000 in
theorem two_any (w : World) (n : Nat) (hn : n < 4294967296) : GivesB w 71 #[.int .i64 (n : Int)] (big n 2) := by
  have hn' : (n : Int) < 4294967296 := by omega
  have hn0 : (0 : Int) ≤ (n : Int) := by omega
  have v2 : (n : Int) / 256 % 256 = ((UInt8.ofNat (n / 256)).toNat : Int) := byte_div n 256
  have v3 := byte_of n
  have Hb := hide (big2 n)
  generalize UInt8.ofNat (n / 256) = b2 at v2 Hb
  generalize UInt8.ofNat n = b3 at v3 Hb
  go_enter Tryd.func71, Tryd.ntmps71
  go_wp2
  go_ret
  refine ⟨_, rfl, ?_⟩
  rw [unhide Hb]
  exact row_new w [b2, b3] (by simp)
end Go.Proofs.YtlhjifdahagkaaaDoor
/-
  The walks of the landed spot.secret, leaf.steps, width.last and width.digit.
-/
namespace Go.Proofs.YtlhjifdahagkaaaDoor
open Go.RowKit
/-- The table of the widths. -/
def WidAt (w : World) : Prop := ∃ tk fr, w.heap[0]? = some (.cells #[.int .i64 1, .int .i64 1, .int .i64 265, .int .i64 7, .int .i64 2, .int .i64 2, .int .i64 133, .int .i64 6, .int .i64 4, .int .i64 3, .int .i64 67, .int .i64 4, .int .i64 8, .int .i64 4, .int .i64 34, .int .i64 0] tk fr)
/-- WHAT THE LANDED HASH PROMISES. R: the tables lie where they are laid. -/
structure CHash (R : World → Prop) (H : Bs → Bs) : Prop where
  below : ∀ a b, R a → Below a.heap.size a b → R b
  wid : ∀ a, R a → WidAt a
  len : ∀ l, (H l).length = 32
  hash : ∀ (w : World) xi xp id (q what : Nat) ls, R w → BytesAt w xi id → LL w xp ls → q < 4294967296 → what < 65536 → id.length ≤ 1000 → ls.flatten.length ≤ 1000000 → ls.length ≤ 1000 → GivesB w 50 #[.agg #[xi, .int .i64 (q : Int)], .int .i64 (what : Int), xp] (H (head id q what ++ ls.flatten))
theorem byte_new (w : World) (j : Nat) (hj : j < 256) : BytesAt (w.alloc (.cells #[.int .u8 (j : Int)] 5)) (.slice (some ⟨w.heap.size, 0, none⟩) 1 1) [UInt8.ofNat j] := by
  have h := bytes_new w [UInt8.ofNat j]
  have e : ((UInt8.ofNat j).toNat : Int) = (j : Int) := by rw [UInt8.toNat_ofNat']; omega
  simp only [List.map, bv, e] at h
  exact h
/-- A literal of one byte and a slice, side by side in a new list. -/
theorem lit_two (w : World) (j : Nat) (hj : j < 256) (y : Value) (l : Bs) (hy : BytesAt w y l) :
    LL ((w.alloc (.cells #[.int .u8 (j : Int)] 5)).alloc (.cells #[.slice (some ⟨w.heap.size, 0, none⟩) 1 1, y] 24)) (.slice (some ⟨w.heap.size + 1, 0, none⟩) 2 2) [[UInt8.ofNat j], l] ∧
    Below w.heap.size w ((w.alloc (.cells #[.int .u8 (j : Int)] 5)).alloc (.cells #[.slice (some ⟨w.heap.size, 0, none⟩) 1 1, y] 24)) := by
  have hb : Below w.heap.size w (w.alloc (.cells #[.int .u8 (j : Int)] 5)) := (Below.refl _ _).alloc (Nat.le_refl _) _
  have h := ll_new2 (w.alloc (.cells #[.int .u8 (j : Int)] 5)) (.slice (some ⟨w.heap.size, 0, none⟩) 1 1) y [UInt8.ofNat j] l 24 (byte_new w j hj) (hy.below hb)
  have e : (w.alloc (.cells #[.int .u8 (j : Int)] 5)).heap.size = w.heap.size + 1 := by simp
  rw [e] at h
  exact ⟨h, hb.alloc (by rw [e]; omega) _⟩
set_option maxRecDepth 100000 in
set_option maxHeartbeats 1000000 in
theorem secret_c {R : World → Prop} {H : Bs → Bs} (C : CHash R H) (w0 : World) (hr : R w0) (xi xs : Value) (id seed : Bs) (hi : BytesAt w0 xi id) (hs : BytesAt w0 xs seed) (li : id.length ≤ 1000) (ls : seed.length ≤ 1000) (q i : Nat) (hq : q < 4294967296) (hii : i < 65536) :
    GivesB w0 56 #[.agg #[xi, .int .i64 (q : Int)], .int .i64 (i : Int), xs] (secret H id seed q i) := by
  obtain ⟨ss, sn, sc, rfl⟩ := hs.forms
  have hbA : Below w0.heap.size w0 (w0.alloc (.cells #[xi, .int .i64 (q : Int)] 91)) := (Below.refl _ _).alloc (Nat.le_refl _) _
  have hK := agg_new w0 [xi, .int .i64 (q : Int)] 91
  obtain ⟨wA, hwA⟩ : ∃ wA, w0.alloc (.cells #[xi, .int .i64 (q : Int)] 91) = wA := ⟨_, rfl⟩
  rw [hwA] at hbA hK
  have c0 := hK.c 0 _ rfl
  have c1 := hK.c 1 _ rfl
  obtain ⟨hL, hbC⟩ := lit_two wA 255 (by omega) _ seed (hs.below hbA)
  have HL := hide hL
  have HX := hide ((hi.below hbA).below hbC)
  have HR := hide (C.below _ _ (C.below _ _ hr hbA) hbC)
  have HB := hide (hbA.trans (hbC.mono hbA.size))
  have HC := hide C
  clear hi hs hr hbA hbC hK hL C
  go_enter Tryd.func56, Tryd.ntmps56
  go_wp2_with fail
  refine ((unhide HC).hash _ xi _ id q i [[255], seed] (unhide HR) (unhide HX) (unhide HL) hq hii li (by simp; omega) (by simp)).mono ?_
  rintro e w1 ⟨v1, rfl, hR1⟩
  have HF : Hid (Row w0 w1 v1 (secret H id seed q i)) := by
    show Row _ _ _ _
    have e1 : head id q i ++ ([[255], seed] : List Bs).flatten = head id q i ++ [255] ++ seed := by simp
    rw [e1] at hR1
    exact hR1.up (unhide HB)
  clear hR1
  go_wp2
  go_ret
  exact ⟨_, rfl, unhide HF⟩
/-- The call gives these bytes, in new memory or where the value x lies. -/
def TellsX (w : World) (f : FuncId) (args : Array Value) (x : Value) (l : Bs) : Prop :=
  Calls Tryd.prog f args w fun e w' => ∃ v, e = .returned v ∧ BytesAt w' v l ∧ (∀ k, v.ownBlock = some k → w.heap.size ≤ k ∨ x.ownBlock = some k) ∧ Below w.heap.size w w'
set_option maxRecDepth 100000 in
set_option maxHeartbeats 2000000 in
theorem steps_c {R : World → Prop} {H : Bs → Bs} (C : CHash R H) (w0 : World) (hr : R w0) (b k p s : Int) (xi x : Value) (id l : Bs) (hi : BytesAt w0 xi id) (hx : BytesAt w0 x l) (li : id.length ≤ 1000) (lx : l.length ≤ 1000) (q i j n m : Nat) (hq : q < 4294967296) (hii : i < 65536) (hm : j + n = m) (hn : m ≤ 256) :
    TellsX w0 73 #[.agg #[.int .i64 b, .int .i64 k, .int .i64 p, .int .i64 s, xi, .int .i64 (q : Int)], .int .i64 (i : Int), .int .i64 (j : Int), .int .i64 (m : Int), x] x (steps H id q i l j n) := by
  have hbA : Below w0.heap.size w0 (w0.alloc (.cells #[.int .i64 b, .int .i64 k, .int .i64 p, .int .i64 s, xi, .int .i64 (q : Int)] 95)) := (Below.refl _ _).alloc (Nat.le_refl _) _
  have hK := agg_new w0 [.int .i64 b, .int .i64 k, .int .i64 p, .int .i64 s, xi, .int .i64 (q : Int)] 95
  obtain ⟨wA, hwA⟩ : ∃ wA, w0.alloc (.cells #[.int .i64 b, .int .i64 k, .int .i64 p, .int .i64 s, xi, .int .i64 (q : Int)] 95) = wA := ⟨_, rfl⟩
  rw [hwA] at hbA hK
  have HK := hide hK
  have HX := hide (hi.below hbA)
  have HR := hide (C.below _ _ hr hbA)
  have HB := hide hbA
  have HC := hide C
  have Hl := hide (And.intro li lx)
  have H0 : Hid (BytesAt wA x (steps H id q i l j 0)) := hide (hx.below hbA)
  have Hm := hide hm
  have mb : (m : Int) ≤ 256 := by omega
  have jb : (j : Int) ≤ (m : Int) := by omega
  have jb0 : (0 : Int) ≤ (j : Int) := by omega
  clear hi hx hr hbA hK C li lx hm
  go_enter Tryd.func73, Tryd.ntmps73
  go_wp2
  go_loopw [4, 11] (fun y ss wr => ∃ a : Nat, j + a ≤ m ∧ ss = .int .i64 ((j + a : Nat) : Int) ∧ Hid (BytesAt wr y (steps H id q i l j a)) ∧ Hid (∀ k, y.ownBlock = some k → w0.heap.size ≤ k ∨ x.ownBlock = some k) ∧ Hid (Below wA.heap.size wA wr)) (fun _ ss _ => m - (intOf ss).toNat)
  case atStart => exact ⟨0, by omega, rfl, H0, fun k hk => Or.inr hk, Below.refl _ _⟩
  case round =>
    clear H0
    obtain ⟨a, ha, rfl, HY, HA, HW⟩ := hrel
    obtain ⟨t, ht⟩ : ∃ t, j + a = t := ⟨_, rfl⟩
    rw [ht]
    rw [ht] at ha
    have tb : (t : Int) ≤ (m : Int) := by omega
    have tb0 : (0 : Int) ≤ (t : Int) := by omega
    have Ht := hide ht
    rename World => wc
    obtain ⟨sy, ny, cy, rfl⟩ := (unhide HY).forms
    by_cases hlt : t < m
    · have il : (t : Int) < (m : Int) := by omega
      have hK := (unhide HK).below (unhide HW)
      have c4 := hK.c 4 _ rfl
      have c5 := hK.c 5 _ rfl
      obtain ⟨hL, hbC⟩ := lit_two wc t (by omega) _ (steps H id q i l j a) (unhide HY)
      have HL := hide hL
      have HXc := hide (((unhide HX).below (unhide HW)).below hbC)
      have HRc := hide ((unhide HC).below _ _ ((unhide HC).below _ _ (unhide HR) (unhide HW)) hbC)
      have HBc := hide hbC
      have hly : (steps H id q i l j a).length ≤ 1000 := by
        cases a with
        | zero => exact (unhide Hl).2
        | succ a => rw [steps_snoc, (unhide HC).len]; omega
      have Hly := hide hly
      clear hbC hK hL ht hly HA HY
      go_wp2_with fail
      refine ((unhide HC).hash _ xi _ id q i [[UInt8.ofNat t], steps H id q i l j a] (unhide HRc) (unhide HXc) (unhide HL) hq hii (unhide Hl).1 (by have := unhide Hly; simp; omega) (by simp)).mono ?_
      rintro e w1 ⟨v1, rfl, hR1⟩
      have HY1 : Hid (BytesAt w1 v1 (steps H id q i l j (a + 1))) := by
        show BytesAt _ _ _
        rw [steps_snoc, unhide Ht]
        have e1 : head id q i ++ ([[UInt8.ofNat t], steps H id q i l j a] : List Bs).flatten = head id q i ++ [UInt8.ofNat t] ++ steps H id q i l j a := by simp
        rw [e1] at hR1
        exact hR1.bytes
      have HA1 : Hid (∀ k, v1.ownBlock = some k → w0.heap.size ≤ k ∨ x.ownBlock = some k) := fun k hk => Or.inl (by
        have h1 := hR1.own.fresh k hk
        have h2 := (unhide HBc).size
        have h3 := (unhide HW).size
        have h4 := (unhide HB).size
        omega)
      have HW1 : Hid (Below wA.heap.size wA w1) := hide ((unhide HW).trans (((unhide HBc).trans (hR1.b.mono (unhide HBc).size)).mono (unhide HW).size))
      have Ht1 : Hid (j + (a + 1) = t + 1) := by show _ = _; have := unhide Ht; omega
      clear hR1 c4 c5 HW HXc HRc HL HBc
      go_wp2
      go_roundw
      case rel =>
        first
          | exact ⟨a + 1, by have := unhide Ht1; omega, by rw [unhide Ht1]; go_num, HY1, HA1, HW1⟩
          | ((repeat apply Exists.intro); exact ⟨⟨a + 1, by have := unhide Ht1; omega, by rw [unhide Ht1]; go_num, HY1, HA1, HW1⟩, rfl⟩)
      case measure => simp [intOf]; omega
    · obtain rfl : t = m := by omega
      have di : decide ((t : Int) < (t : Int)) = false := by simp
      have HF : Hid (BytesAt wc (.slice sy ny cy) (steps H id q i l j n)) := by
        show BytesAt _ _ _
        have h1 := unhide Ht
        have h2 := unhide Hm
        have h3 := unhide HY
        rwa [show a = n by omega] at h3
      have HFb := hide ((unhide HB).trans ((unhide HW).mono (unhide HB).size))
      clear ht
      go_wp2
      go_ret
      exact ⟨_, rfl, unhide HF, unhide HA, unhide HFb⟩
set_option maxRecDepth 100000 in
set_option maxHeartbeats 1000000 in
theorem last_c (w : World) (wd : Nat) (hw : IsW wd) (k p s : Int) : Calls Tryd.prog 74 #[.agg #[.int .i64 (wd : Int), .int .i64 k, .int .i64 p, .int .i64 s]] w fun e w' => e = .returned (.int .i64 ((2 ^ wd - 1 : Nat) : Int)) ∧ Below w.heap.size w w' := by
  have hb : ∀ o : Obj, Below w.heap.size w (w.alloc o) := fun o => (Below.refl _ _).alloc (Nat.le_refl _) _
  have Hb := hide hb
  clear hb
  rcases hw with rfl | rfl | rfl | rfl
  all_goals
    go_enter Tryd.func74, Tryd.ntmps74
    go_wp2
    go_ret
    exact ⟨rfl, unhide Hb _⟩
end Go.Proofs.YtlhjifdahagkaaaDoor
/-
  The walks of slices.Grow and slices.Concat at bytes.
-/
namespace Go.Proofs.YtlhjifdahagkaaaDoor
open Go.RowKit
theorem len_zeros (z : Array Value) (n : Nat) (hz : z.size = 1) : (Builtin.zeroCells z n).size = n := by simp [Builtin.zeroCells, hz]
theorem grown_nil (w : World) (n : Nat) (h0 : 0 < n) (hn : n ≤ 1073741824) (ty : TypeId) : ∃ cap W, (Builtin.append_ #[24, 3] ty #[.slice none 0 0, .int .i64 (n : Int)]).run Tryd.prog w = .ok (.slice (some ⟨w.heap.size, 0, none⟩) n cap) W ∧ n ≤ cap ∧ cap ≤ maxLen ∧ Row w W (.slice (some ⟨w.heap.size, 0, none⟩) 0 cap) [] := by
  obtain ⟨hu, ⟨i, hi, hz, hsz, hby⟩, hone, hsmall⟩ := Eb
  have hr := Lib.run_append_nil_zeros (P := Tryd.prog) w 24 3 ty 5 i (.int .u8 0) .i64 .i64 hu Tryd.underlying3 hi hz n h0 (by omega) (by omega) (by rw [hby]; omega)
  have hge := grownCap_ge w n 0 5
  have hle := grownCap_le_maxLen w n 0 5 (by simp only [maxLen]; omega)
  refine ⟨_, _, hr, hge, hle, ⟨⟨rfl, Or.inr ⟨w.heap.size, grownCap w n 0 5, _, rfl, Nat.le_refl _, heap_alloc_new w.drew _, Nat.zero_le _, hle, ?_, rfl⟩⟩, ((Below.refl _ _).drew).alloc (Nat.le_refl _) _⟩⟩
  rw [Array.size_append, len_zeros _ _ hone, len_zeros _ _ hone]
  omega
set_option maxRecDepth 100000 in
set_option maxHeartbeats 1000000 in
theorem sgrow_any (w : World) (n : Nat) (hn : n ≤ 1073741824) : GivesB w 48 #[.slice none 0 0, .int .i64 (n : Int)] [] := by
  have n0 : (0 : Int) ≤ (n : Int) := by omega
  have n1 : (n : Int) ≤ 1073741824 := by omega
  by_cases h0 : 0 < n
  · have d0 : (0 : Int) < (n : Int) := by omega
    obtain ⟨cap, W, hr, hge, hle, hR⟩ := grown_nil w n h0 hn 24
    have HR := hide hR
    have hc : (n : Int) ≤ (cap : Int) := by omega
    have hc0 : (0 : Int) ≤ (cap : Int) := by omega
    clear hR
    go_enter Tryd.func48, Tryd.ntmps48
    go_wp2_with (at_builtin; refine Lib.wpList_append_run _ rfl _ _ _ _ rfl _ _ rfl rfl _ _ hr ?_)
    go_ret
    exact ⟨_, rfl, unhide HR⟩
  · obtain rfl : n = 0 := by omega
    go_enter Tryd.func48, Tryd.ntmps48
    go_wp2
    go_ret
    exact ⟨_, rfl, ownb_nil w w.heap.size, Below.refl _ _⟩
set_option maxRecDepth 100000 in
set_option maxHeartbeats 2000000 in
theorem concat_any (w0 : World) (xp : Value) (ls : List Bs) (hp : LL w0 xp ls) (ll : ls.flatten.length ≤ 1000000) (lc : ls.length ≤ 1000) :
    GivesB w0 25 #[xp] ls.flatten := by
  obtain ⟨sp, cp, rfl⟩ := hp.form
  have HP := hide hp
  have Hl := hide ll
  have lc' : (ls.length : Int) ≤ 1000 := by omega
  have lc0 : (0 : Int) ≤ (ls.length : Int) := by omega
  clear hp ll
  go_enter Tryd.func25, Tryd.ntmps25
  go_wp2
  go_loop [3, 11] (fun n ii => ∃ i : Nat, i ≤ ls.length ∧ ii = .int .i64 (i : Int) ∧ n = .int .i64 ((ls.take i).flatten.length : Int)) (fun _ ii => ls.length - (intOf ii).toNat)
  case atStart => exact ⟨0, by omega, rfl, rfl⟩
  case round =>
    obtain ⟨i, hi, rfl, rfl⟩ := hrel
    have ib : (i : Int) ≤ 1000 := by omega
    have ib0 : (0 : Int) ≤ (i : Int) := by omega
    by_cases hlt : i < ls.length
    · obtain ⟨b, o, c, v, e, hb, hc, hv⟩ := (unhide HP).at i hlt
      simp only [Value.slice.injEq] at e
      obtain ⟨rfl, _, rfl⟩ := e
      obtain ⟨s2, c2, rfl, _⟩ := bytes_open hv
      have il : (i : Int) < (ls.length : Int) := by omega
      have h2 := flat_succ ls i hlt
      have h3 := flat_le ls (i + 1)
      have h4 := unhide Hl
      have hs : ((ls.take (i + 1)).flatten.length : Int) = ((ls.take i).flatten.length : Int) + ((ls.getD i []).length : Int) := by rw [h2, List.length_append]; omega
      have Hs := hide hs
      have h5 : ((ls.take i).flatten.length : Int) + ((ls.getD i []).length : Int) ≤ 1000000 := by omega
      obtain ⟨A, hA⟩ : ∃ A, (ls.take i).flatten.length = A := ⟨_, rfl⟩
      obtain ⟨Bq, hBq⟩ : ∃ Bq, (ls.getD i []).length = Bq := ⟨_, rfl⟩
      rw [hA, hBq] at Hs h5
      rw [hA]
      rw [hBq] at hc
      have a0 : (0 : Int) ≤ (A : Int) := by omega
      have b0 : (0 : Int) ≤ (Bq : Int) := by omega
      have d1 : decide ((A : Int) + (Bq : Int) < 0) = false := by simp; omega
      clear hv hb hs h2 h3 h4 hA hBq
      go_wp2
      go_round
      case rel => exact ⟨i + 1, by omega, by go_num, by rw [unhide Hs]⟩
      case measure => simp [intOf]; omega
    · obtain rfl : i = ls.length := by omega
      have di : decide ((ls.length : Int) < (ls.length : Int)) = false := by simp
      have h4 := unhide Hl
      have e1 : (ls.take ls.length).flatten.length = ls.flatten.length := by rw [List.take_length]
      rw [e1]
      obtain ⟨A, hA⟩ : ∃ A, ls.flatten.length = A := ⟨_, rfl⟩
      rw [hA] at h4
      rw [hA]
      have HA := hide hA
      clear e1 hA
      go_wp2_with fail
      refine (sgrow_any w0 A (by omega)).mono ?_
      rintro e w1 ⟨v1, rfl, hR1⟩
      have HR1 : Hid (Row w0 w1 v1 (ls.take 0).flatten) := hide (by simpa using hR1)
      clear hR1 hlt di
      go_wp2
      go_loopw [6, 27] (fun u ii wr => ∃ i : Nat, i ≤ ls.length ∧ ii = .int .i64 (i : Int) ∧ Hid (Row w0 wr u (ls.take i).flatten)) (fun _ ii _ => ls.length - (intOf ii).toNat)
      case atStart => exact ⟨0, by omega, rfl, HR1⟩
      case round =>
        clear HR1
        obtain ⟨i, hi, rfl, HR⟩ := hrel
        have ib : (i : Int) ≤ 1000 := by omega
        have ib0 : (0 : Int) ≤ (i : Int) := by omega
        rename World => wc
        by_cases hlt : i < ls.length
        · obtain ⟨b, o, c, v, e, hb, hc, hv⟩ := (unhide HP).at i hlt
          simp only [Value.slice.injEq] at e
          obtain ⟨rfl, _, rfl⟩ := e
          have hc' : wc.cell? ⟨b, o + i, none⟩ = some v := by rw [(unhide HR).b.cell (p := ⟨b, o + i, none⟩) hb]; exact hc
          have il : (i : Int) < (ls.length : Int) := by omega
          have Hv := hide (hv.below (unhide HR).b)
          have Hll : Hid ((ls.take i).flatten.length + (ls.getD i []).length ≤ 1073741824) := by
            show _ ≤ _
            have h2 := flat_succ ls i hlt
            have h3 := flat_le ls (i + 1)
            have h4 := unhide Hl
            rw [h2, List.length_append] at h3
            omega
          have Hf := hide (flat_succ ls i hlt)
          clear hc hv hb
          go_wp2_with (at_builtin; refine wpList_append_row rfl _ _ rfl _ v (ls.take i).flatten (ls.getD i []) rfl (unhide HR) rfl (unhide Hv) (unhide Hll) ?_
                       intro v4 w4 hR4
                       have HR4 : Hid (Row w0 w4 v4 (ls.take (i + 1)).flatten) := by show Row _ _ _ _; rw [unhide Hf]; exact hR4
                       clear hR4)
          go_roundw
          case rel =>
            first
              | exact ⟨i + 1, by omega, by go_num, HR4⟩
              | ((repeat apply Exists.intro); exact ⟨⟨i + 1, by omega, by go_num, HR4⟩, rfl⟩)
          case measure => simp [intOf]; omega
        · obtain rfl : i = ls.length := by omega
          have di : decide ((ls.length : Int) < (ls.length : Int)) = false := by simp
          have HF := HR
          rw [List.take_length] at HF
          go_wp2
          go_ret
          exact ⟨_, rfl, unhide HF⟩
end Go.Proofs.YtlhjifdahagkaaaDoor
/-
  The walks of the landed width.digit, width.digits and leaf.messageDigits.
-/
namespace Go.Proofs.YtlhjifdahagkaaaDoor
open Go.RowKit
theorem ofInt_i64 (a : Nat) (ha : a < 4294967296) : (BitVec.ofInt 64 (a : Int)).toNat = a := by
  rw [BitVec.ofInt_natCast, BitVec.toNat_ofNat]; exact Nat.mod_eq_of_lt (by omega)
theorem i64_and_nat (a b : Nat) (ha : a < 4294967296) (hb : b < 4294967296) : bits .and .i64 (a : Int) (b : Int) = ((a &&& b : Nat) : Int) := by
  have hx : a &&& b < 2 ^ 32 := Nat.and_lt_two_pow _ (by omega)
  show IntKind.i64.wrap ((BitVec.ofInt 64 (a : Int) &&& BitVec.ofInt 64 (b : Int)).toNat : Int) = _
  rw [BitVec.toNat_and, ofInt_i64 a ha, ofInt_i64 b hb, IntKind.wrap_i64]
  omega
theorem i64_or_nat (a b : Nat) (ha : a < 4294967296) (hb : b < 4294967296) : bits .or .i64 (a : Int) (b : Int) = ((a ||| b : Nat) : Int) := by
  have hx : a ||| b < 2 ^ 32 := Nat.or_lt_two_pow (by omega) (by omega)
  show IntKind.i64.wrap ((BitVec.ofInt 64 (a : Int) ||| BitVec.ofInt 64 (b : Int)).toNat : Int) = _
  rw [BitVec.toNat_or, ofInt_i64 a ha, ofInt_i64 b hb, IntKind.wrap_i64]
  omega
set_option maxRecDepth 100000 in
set_option maxHeartbeats 2000000 in
theorem digit_c (w0 : World) (k p s : Int) (x : Value) (b : Bs) (hx : BytesAt w0 x b) (i wd : Nat) (hw : IsW wd) (hi : i * wd / 8 < b.length) (hl : b.length ≤ 1000) :
    Calls Tryd.prog 88 #[.agg #[.int .i64 (wd : Int), .int .i64 k, .int .i64 p, .int .i64 s], x, .int .i64 (i : Int)] w0 fun e w' => e = .returned (.int .i64 (coef b i wd : Int)) ∧ Below w0.heap.size w0 w' := by
  have hbA : Below w0.heap.size w0 (w0.alloc (.cells #[.int .i64 (wd : Int), .int .i64 k, .int .i64 p, .int .i64 s] 52)) := (Below.refl _ _).alloc (Nat.le_refl _) _
  have hK := agg_new w0 [.int .i64 (wd : Int), .int .i64 k, .int .i64 p, .int .i64 s] 52
  obtain ⟨wA, hwA⟩ : ∃ wA, w0.alloc (.cells #[.int .i64 (wd : Int), .int .i64 k, .int .i64 p, .int .i64 s] 52) = wA := ⟨_, rfl⟩
  rw [hwA] at hbA hK
  have hKd : AggAt wA.drew w0.heap.size _ := hK.below (Below.refl _ _).drew
  have c0 := hK.c 0 _ rfl
  have c1 := hK.c 1 _ rfl
  have c2 := hK.c 2 _ rfl
  have c3 := hK.c 3 _ rfl
  obtain ⟨sp, c, rfl, _, _, hc⟩ := bytes_open hx
  obtain ⟨bb, bo, rfl, hbb, hcell⟩ := hc (by intro e; rw [e] at hi; simp at hi)
  have hc1 : wA.cell? ⟨bb, bo + i * wd / 8, none⟩ = some (.int .u8 ((b.getD (i * wd / 8) 0).toNat : Int)) := by rw [hbA.cell (p := ⟨bb, bo + i * wd / 8, none⟩) hbb]; exact hcell (i * wd / 8) hi
  have hcf : coef b i wd = (b.getD (i * wd / 8) 0).toNat / 2 ^ (8 - wd - i * wd % 8) % 2 ^ wd := rfl
  obtain ⟨X, hX⟩ : ∃ X, (b.getD (i * wd / 8) 0).toNat = X := ⟨_, rfl⟩
  have hXb : X < 256 := by rw [← hX]; exact (b.getD (i * wd / 8) 0).toNat_lt
  rw [hX] at hc1 hcf
  have hdv : i * wd % 8 + wd ≤ 8 := by rcases hw with rfl | rfl | rfl | rfl <;> omega
  have hw8 : wd ≤ 8 := by omega
  have hw0 : 1 ≤ wd := by rcases hw with rfl | rfl | rfl | rfl <;> omega
  obtain ⟨A, hA⟩ : ∃ A, i * wd = A := ⟨_, rfl⟩
  have hAi : (i : Int) * (wd : Int) = (A : Int) := by rw [← hA]; simp
  rw [hA] at hcf hdv hc1 hi
  have hAb : A ≤ 8000 := by omega
  obtain ⟨j, hj⟩ : ∃ j, A / 8 = j := ⟨_, rfl⟩
  obtain ⟨m, hm⟩ : ∃ m, A % 8 = m := ⟨_, rfl⟩
  have q1 : (A : Int).tdiv 8 = (j : Int) := by rw [Int.tdiv_eq_ediv_of_nonneg (by omega)]; omega
  have q2 : (A : Int).tmod 8 = (m : Int) := by rw [Int.tmod_eq_emod_of_nonneg (by omega)]; omega
  have q1' : (A : Int) / 8 = (j : Int) := by omega
  have q2' : (A : Int) % 8 = (m : Int) := by omega
  rw [hj] at hc1 hi
  rw [hm] at hcf hdv
  obtain ⟨t, ht⟩ : ∃ t, 8 - wd - m = t := ⟨_, rfl⟩
  rw [ht] at hcf
  have q3 : (8 : Int) - (wd : Int) - (m : Int) = (t : Int) := by omega
  have hsb : t ≤ 7 := by omega
  have q4 : (X : Int) / 2 ^ t = ((X / 2 ^ t : Nat) : Int) := by simp
  obtain ⟨Y, hY⟩ : ∃ Y, X / 2 ^ t = Y := ⟨_, rfl⟩
  rw [hY] at q4 hcf
  have hYb : Y < 256 := by rw [← hY]; exact Nat.lt_of_le_of_lt (Nat.div_le_self _ _) hXb
  have hand : Y &&& (2 ^ wd - 1) = coef b i wd := by rw [Nat.and_two_pow_sub_one_eq_mod, hcf]
  obtain ⟨E, hE⟩ : ∃ E, 2 ^ wd - 1 = E := ⟨_, rfl⟩
  have HLc := fun w => last_c w wd hw k p s
  rw [hE] at hand HLc
  have hEb : E < 256 := by
    have := Nat.pow_le_pow_right (show 0 < 2 by omega) hw8
    omega
  generalize coef b i wd = cf at hcf hand
  have Hand := hide hand
  have HLh := hide HLc
  have HB := hide hbA
  have HK := hide hKd
  have wb : (wd : Int) ≤ 8 := by omega
  have wb0 : (1 : Int) ≤ (wd : Int) := by omega
  have mb : (m : Int) ≤ 7 := by omega
  have mb0 : (0 : Int) ≤ (m : Int) := by omega
  have sb : (t : Int) ≤ 7 := by omega
  have s0 : (0 : Int) ≤ (t : Int) := by omega
  have jb0 : (0 : Int) ≤ (j : Int) := by omega
  have jb : (j : Int) < (b.length : Int) := by omega
  have Yb : (Y : Int) < 256 := by omega
  have Xb : (X : Int) < 256 := by omega
  have Ab : (A : Int) ≤ 8000 := by omega
  have Ab0 : (0 : Int) ≤ (A : Int) := by omega
  have Eb1 : (E : Int) < 256 := by omega
  have HbbA : Hid (bb < wA.drew.heap.size ∧ wA.drew.cell? ⟨bb, bo + j, none⟩ = some (.int .u8 (X : Int))) := hide ⟨Nat.lt_of_lt_of_le hbb hbA.size, hc1⟩
  have k1 : IntKind.i64.wrap (j : Int) = j := IntWalk.i64_in _ (by omega)
  have k2 : IntKind.i64.wrap (m : Int) = m := IntWalk.i64_in _ (by omega)
  have k3 : IntKind.i64.wrap (t : Int) = t := IntWalk.i64_in _ (by omega)
  have k4 : IntKind.i64.wrap (Y : Int) = Y := IntWalk.i64_in _ (by omega)
  have k5 : IntKind.i64.wrap (X : Int) = X := IntWalk.i64_in _ (by omega)
  have k6 : IntKind.i64.wrap ((8 : Int) - (wd : Int)) = (8 : Int) - (wd : Int) := IntWalk.i64_in _ (by omega)
  clear hx hc hcell hX hA hj hm ht hY hcf hw hi hdv hw8 hw0 hsb hYb hXb hAb hE hbA hand HLc hK hKd
  go_enter Tryd.func88, Tryd.ntmps88
  go_wp2
  go_region_held3 (fun w' => w'.cell? ⟨w0.heap.size, 0, none⟩ = some (.int .i64 (wd : Int)) ∧ w'.cell? ⟨w0.heap.size, 1, none⟩ = some (.int .i64 k) ∧ w'.cell? ⟨w0.heap.size, 2, none⟩ = some (.int .i64 p) ∧ w'.cell? ⟨w0.heap.size, 3, none⟩ = some (.int .i64 s) ∧ w'.cell? ⟨bb, bo + j, none⟩ = some (.int .u8 (X : Int))) (go_keep)
    ((go_at_call 74; refine ((unhide HLh) _).mono ?_; rintro e w3 ⟨rfl, hb3⟩; have HK3 := hide ((unhide HK).below hb3); have m0 := (unhide HK3).c 0 _ rfl; have m1 := (unhide HK3).c 1 _ rfl; have m2 := (unhide HK3).c 2 _ rfl; have m3 := (unhide HK3).c 3 _ rfl; have m4 := (hb3.cell (p := ⟨bb, bo + j, none⟩) (unhide HbbA).1).trans (unhide HbbA).2; have HB3 := hide ((unhide HB).drew.trans (hb3.mono (unhide HB).drew.size)); clear hb3))
  have hv : bits .and .i64 (Y : Int) (E : Int) = (cf : Int) := by rw [i64_and_nat Y E (by omega) (by omega), unhide Hand]
  have HV := hide hv
  clear hv
  go_wp2
  go_ret
  exact ⟨congrArg (fun z => Ending.returned (Value.int .i64 z)) (unhide HV), unhide HB3⟩
theorem dvals_set (q : Bs) (wd p i : Nat) (hi : i < p) : (dvals q wd i ++ List.replicate (p - i) (Value.int .i64 0)).set i (.int .i64 (digit q wd i : Int)) = dvals q wd (i + 1) ++ List.replicate (p - (i + 1)) (Value.int .i64 0) := by
  rw [show p - i = (p - (i + 1)) + 1 by omega, List.replicate_succ, List.set_append_right _ _ (by rw [len_dvals]; omega), len_dvals, Nat.sub_self, List.set_cons_zero, dvals_succ, List.append_assoc]
  rfl
set_option maxRecDepth 100000 in
set_option maxHeartbeats 4000000 in
theorem digits_c {R : World → Prop} {H : Bs → Bs} (_C : CHash R H) (w0 : World) (x : Value) (q : Bs) (hx : BytesAt w0 x q) (hq : q.length = 32) (wd : Nat) (hw : IsW wd) (k : Int) :
    Calls Tryd.prog 85 #[.agg #[.int .i64 (wd : Int), .int .i64 k, .int .i64 (pW wd : Int), .int .i64 (lsW wd : Int)], x] w0 fun e w' => ∃ v, e = .returned v ∧ OwnV 3 w' w0.heap.size v (dvals q wd (pW wd)) ∧ Below w0.heap.size w0 w' := by
  obtain ⟨p, hp⟩ : ∃ p, pW wd = p := ⟨_, rfl⟩
  obtain ⟨ls, hls⟩ : ∃ ls, lsW wd = ls := ⟨_, rfl⟩
  have hpb : p ≤ 265 := by rw [← hp]; rcases hw with rfl | rfl | rfl | rfl <;> simp [pW]
  have hlb : ls ≤ 7 := by rw [← hls]; rcases hw with rfl | rfl | rfl | rfl <;> simp [lsW]
  have HPw : Hid (∀ k, k < p → k * wd / 8 < 34) := fun k hk => by
    rw [← hp] at hk
    rcases hw with rfl | rfl | rfl | rfl <;> (simp [pW] at hk; omega)
  rw [hp, hls]
  have Hls := hide hls
  have hbA : Below w0.heap.size w0 (w0.alloc (.cells #[.int .i64 (wd : Int), .int .i64 k, .int .i64 (p : Int), .int .i64 (ls : Int)] 52)) := (Below.refl _ _).alloc (Nat.le_refl _) _
  have hK := agg_new w0 [.int .i64 (wd : Int), .int .i64 k, .int .i64 (p : Int), .int .i64 (ls : Int)] 52
  obtain ⟨wA, hwA⟩ : ∃ wA, w0.alloc (.cells #[.int .i64 (wd : Int), .int .i64 k, .int .i64 (p : Int), .int .i64 (ls : Int)] 52) = wA := ⟨_, rfl⟩
  rw [hwA] at hbA hK
  have c0 := hK.c 0 _ rfl
  obtain ⟨sp, c, rfl, _, _, hc⟩ := bytes_open hx
  obtain ⟨bb, bo, rfl, hbb, hcell⟩ := hc (by intro e; rw [e] at hq; simp at hq)
  rw [hq] at hx ⊢
  obtain ⟨x, hxx⟩ : ∃ x, Value.slice (some ⟨bb, bo, none⟩) 32 c = x := ⟨_, rfl⟩
  rw [hxx] at hx
  have HX := hide (hx.below hbA)
  have HK := hide hK
  have HB := hide hbA
  have Hq := hide hq
  have Hw := hide hw
  have hw8 : wd ≤ 8 := by rcases hw with rfl | rfl | rfl | rfl <;> omega
  have hw0 : 1 ≤ wd := by rcases hw with rfl | rfl | rfl | rfl <;> omega
  obtain ⟨N, hN⟩ : ∃ N, 256 / wd = N := ⟨_, rfl⟩
  have hNb : N ≤ 256 := by rw [← hN]; exact Nat.div_le_self _ _
  have HNw : Hid (∀ i, i < N → i * wd / 8 < 32) := fun i hi => by
    rw [← hN] at hi
    rcases unhide Hw with rfl | rfl | rfl | rfl <;> omega
  have HN := hide hN
  have d1 : (256 : Int).tdiv (wd : Int) = (N : Int) := by rw [Int.tdiv_eq_ediv_of_nonneg (by omega), ← hN]; simp
  have d1' : (256 : Int) / (wd : Int) = (N : Int) := by rw [← hN]; simp
  have hpe : 2 ^ wd ≤ 256 := Nat.pow_le_pow_right (show 0 < 2 by omega) hw8
  have hpz : 0 < 2 ^ wd := Nat.pow_pos (by omega)
  obtain ⟨E, hE⟩ : ∃ E, 2 ^ wd - 1 = E := ⟨_, rfl⟩
  have HLc := fun w (kk pp ss : Int) => last_c w wd hw kk pp ss
  rw [hE] at HLc
  have HLh := hide HLc
  have hEb : E ≤ 255 := by omega
  have HE := hide hE
  have wb : (wd : Int) ≤ 8 := by omega
  have wb0 : (1 : Int) ≤ (wd : Int) := by omega
  have pb : (p : Int) ≤ 265 := by omega
  have pb0 : (0 : Int) ≤ (p : Int) := by omega
  have lb : (ls : Int) ≤ 7 := by omega
  have lb0 : (0 : Int) ≤ (ls : Int) := by omega
  have Nb : (N : Int) ≤ 256 := by omega
  subst hxx
  clear hx hq hN hcell hc hbb hbA hK HLc hE hpe hpz hp hls hw
  go_enter Tryd.func85, Tryd.ntmps85
  go_wp2
  go_loopw [5, 16] (fun ss ii wr => ∃ i S : Nat, i ≤ N ∧ ii = .int .i64 (i : Int) ∧ S ≤ 65280 ∧ ss = .int .i64 (S : Int) ∧ Hid (S = sumTo q wd i) ∧ Hid (Below wA.heap.size wA wr)) (fun _ ii _ => N - (intOf ii).toNat)
  case atStart => exact ⟨0, 0, by omega, rfl, by omega, rfl, rfl, Below.refl _ _⟩
  case round =>
    obtain ⟨i, S, hi, rfl, hS, rfl, HS, HW⟩ := hrel
    have ib : (i : Int) ≤ 256 := by omega
    have Sb : (S : Int) ≤ 65280 := by omega
    rename World => wc
    by_cases hlt : i < N
    · have HWd := hide (unhide HW).drew
      have HKc := hide ((unhide HK).below (unhide HW))
      have HKd := hide ((unhide HK).below (unhide HWd))
      have k0 := (unhide HKc).c 0 _ rfl
      have k1 := (unhide HKc).c 1 _ rfl
      have k2 := (unhide HKc).c 2 _ rfl
      have k3 := (unhide HKc).c 3 _ rfl
      have hcl := coef_lt q i wd
      have hcb : coef q i wd ≤ E := by have := unhide HE; omega
      have hst : sumTo q wd (i + 1) = sumTo q wd i + (2 ^ wd - 1 - coef q i wd) := rfl
      have hsb := sumTo_le q wd hw8 (i + 1)
      have Hco : Hid (∀ w3, Below wA.heap.size wA w3 → ∀ kk pp ss, Calls Tryd.prog 88 #[.agg #[.int .i64 (wd : Int), .int .i64 kk, .int .i64 pp, .int .i64 ss], .slice (some ⟨bb, bo, none⟩) 32 c, .int .i64 (i : Int)] w3 fun e w' => e = .returned (.int .i64 (coef q i wd : Int)) ∧ Below w3.heap.size w3 w') := fun w3 h3 kk pp ss =>
        digit_c w3 kk pp ss _ q ((unhide HX).below h3) i wd (unhide Hw) (by rw [unhide Hq]; exact unhide HNw i hlt) (by rw [unhide Hq]; omega)
      rw [unhide HE] at hst
      generalize coef q i wd = cf at hcl hcb hst Hco
      obtain ⟨D, hD⟩ : ∃ D, E - cf = D := ⟨_, rfl⟩
      have ci : (E : Int) - (cf : Int) = (D : Int) := by omega
      rw [hD] at hst
      have hSD : S + D ≤ 65280 := by rw [unhide HS, ← hst]; omega
      have HSD : Hid (S + D = sumTo q wd (i + 1)) := by show _ = _; rw [hst, unhide HS]
      have Db : (D : Int) ≤ 65280 := by omega
      have cfb : (cf : Int) ≤ 255 := by omega
      have Eb1 : (E : Int) ≤ 255 := by omega
      have w1 : IntKind.i64.wrap (D : Int) = D := IntWalk.i64_in _ (by omega)
      have w2 : IntKind.i64.wrap ((S : Int) + (D : Int)) = (S : Int) + (D : Int) := IntWalk.i64_in _ (by omega)
      clear hst hsb hD hcl hcb HS
      go_wp2
      go_region_held3 (fun w' => w'.cell? ⟨w0.heap.size, 0, none⟩ = some (.int .i64 (wd : Int)) ∧ w'.cell? ⟨w0.heap.size, 1, none⟩ = some (.int .i64 k) ∧ w'.cell? ⟨w0.heap.size, 2, none⟩ = some (.int .i64 (p : Int)) ∧ w'.cell? ⟨w0.heap.size, 3, none⟩ = some (.int .i64 (ls : Int))) (go_keep)
        ((first
          | (go_at_call 74; refine ((unhide HLh) _ _ _ _).mono ?_; rintro e w3 ⟨rfl, hb3⟩; have HW3 := hide ((unhide HWd).trans (hb3.mono (unhide HWd).size)); have HK3 := hide ((unhide HKd).below hb3); have m0 := (unhide HK3).c 0 _ rfl; have m1 := (unhide HK3).c 1 _ rfl; have m2 := (unhide HK3).c 2 _ rfl; have m3 := (unhide HK3).c 3 _ rfl; clear hb3)
          | (go_at_call 88; refine ((unhide Hco) w3 (unhide HW3) _ _ _).mono ?_; rintro e w4 ⟨rfl, hb4⟩; have HW4 := hide ((unhide HW3).trans (hb4.mono (unhide HW3).size)); have HK4 := hide ((unhide HK3).below hb4); have n0 := (unhide HK4).c 0 _ rfl; have n1 := (unhide HK4).c 1 _ rfl; have n2 := (unhide HK4).c 2 _ rfl; have n3 := (unhide HK4).c 3 _ rfl; clear hb4)))
      go_wp2
      go_roundw
      case rel =>
        first
          | exact ⟨i + 1, S + D, by omega, by go_num, hSD, by go_num, HSD, HW4⟩
          | ((repeat apply Exists.intro); exact ⟨⟨i + 1, S + D, by omega, by go_num, hSD, by go_num, HSD, HW4⟩, rfl⟩)
      case measure => simp [intOf]; omega
    · obtain rfl : i = N := by omega
      have d2 : decide ((i : Int) < (i : Int)) = false := by simp
      have HKc := hide ((unhide HK).below (unhide HW))
      have k2 := (unhide HKc).c 2 _ rfl
      have k3 := (unhide HKc).c 3 _ rfl
      obtain ⟨T, hT⟩ : ∃ T, S * 2 ^ ls = T := ⟨_, rfl⟩
      have hTi : (S : Int) * 2 ^ ls = (T : Int) := by rw [← hT]; simp
      have hTb : T ≤ 8355840 := by
        rw [← hT]
        exact Nat.mul_le_mul hS (Nat.pow_le_pow_right (show 0 < 2 by omega) hlb)
      have HWS : Hid (withSum q wd = q ++ big T 2) := by
        show _ = _
        unfold withSum
        rw [unhide Hls, unhide HN, ← unhide HS, hT]
      have Tb : (T : Int) ≤ 8355840 := by omega
      have Tb0 : (0 : Int) ≤ (T : Int) := by omega
      have Tw : IntKind.i64.wrap (T : Int) = T := IntWalk.i64_in _ (by omega)
      clear hT HS
      go_wp2_with fail
      refine (two_any _ T (by omega)).mono ?_
      rintro e w2 ⟨v2, rfl, hR⟩
      have HW2 := hide ((unhide HW).trans (hR.b.mono (unhide HW).size))
      have HV2 := hide hR.bytes
      obtain ⟨s2, n2, c2, rfl⟩ := hR.bytes.forms
      have HL := hide (ll_new2 w2 _ _ q (big T 2) 24 ((unhide HX).below (unhide HW2)) hR.bytes)
      have HbL : Hid (Below w2.heap.size w2 (w2.alloc (.cells #[.slice (some ⟨bb, bo, none⟩) 32 c, .slice s2 n2 c2] 24))) := hide ((Below.refl _ _).alloc (Nat.le_refl _) _)
      clear hR k3
      go_wp2_with fail
      refine (concat_any _ _ [q, big T 2] (unhide HL) (by have := unhide Hq; simp [len_big, this]) (by simp)).mono ?_
      rintro e w3 ⟨v3, rfl, hR⟩
      have HW3 := hide ((unhide HW2).trans (((unhide HbL).trans (hR.b.mono (unhide HbL).size)).mono (unhide HW2).size))
      have HV3 : Hid (BytesAt w3 v3 (withSum q wd)) := by
        show BytesAt _ _ _
        rw [unhide HWS]
        have := hR.bytes
        simpa using this
      have HlW : Hid ((withSum q wd).length = 34) := by show _ = _; rw [unhide HWS, List.length_append, unhide Hq, len_big]
      have HKc3 := hide ((unhide HK).below (unhide HW3))
      have k2' := (unhide HKc3).c 2 _ rfl
      obtain ⟨W4, hmk, hrow, hb4⟩ := made_vals Ei rfl w3 .i64 .i64 p (p : Int) (p : Int) rfl rfl (by omega)
      have HW4 := hide ((unhide HW3).trans (hb4.mono (unhide HW3).size))
      have HV4 := hide ((unhide HV3).below hb4)
      have HKc4 := hide ((unhide HK).below (unhide HW4))
      obtain ⟨B, hB⟩ : ∃ B, w3.heap.size = B := ⟨_, rfl⟩
      rw [hB] at hmk hrow
      have HR4 : Hid (RowAt 3 W4 B [] (dvals q wd 0 ++ List.replicate (p - 0) (Value.int .i64 0))) := hide hrow
      have Hne : Hid (v3.ownBlock ≠ some B) := fun e => by
        have := ValsAt.old (unhide HV3) (by intro h; have h2 := unhide HlW; rw [← List.length_map (f := bv), h] at h2; simp at h2) _ e
        omega
      have HBg : Hid (wA.heap.size ≤ B) := by show _ ≤ _; rw [← hB]; exact (unhide HW3).size
      clear hR hrow hb4 k2 HbL HL HV2 HW2 HW HV3 HKc HKc3 hB d2 hlt hi
      go_wp2
      go_loopw [42] (fun ii wr => ∃ i : Nat, i ≤ p ∧ ii = .int .i64 (i : Int) ∧ Hid (RowAt 3 wr B [] (dvals q wd i ++ List.replicate (p - i) (Value.int .i64 0))) ∧ Hid (BytesAt wr v3 (withSum q wd)) ∧ Hid (Below wA.heap.size wA wr)) (fun ii _ => p - (intOf ii).toNat)
      case atStart => exact ⟨0, by omega, rfl, HR4, HV4, HW4⟩
      case round =>
        clear HR4 HV4 HW4 HKc4 hmk
        obtain ⟨i, hi, rfl, HR, HV, HW⟩ := hrel
        have ib : (i : Int) ≤ 265 := by omega
        have ib0 : (0 : Int) ≤ (i : Int) := by omega
        rename World => wd2
        by_cases hlt : i < p
        · have HKc := hide ((unhide HK).below (unhide HW))
          have k0 := (unhide HKc).c 0 _ rfl
          have k1 := (unhide HKc).c 1 _ rfl
          have k2 := (unhide HKc).c 2 _ rfl
          have k3 := (unhide HKc).c 3 _ rfl
          have il : (i : Int) < (p : Int) := by omega
          have Hd := hide (digit_c wd2 k (p : Int) (ls : Int) v3 (withSum q wd) (unhide HV) i wd (unhide Hw) (by rw [unhide HlW]; exact unhide HPw i hlt) (by rw [unhide HlW]; omega))
          go_wp2_with fail
          refine (unhide Hd).mono ?_
          rintro e w5 ⟨rfl, hb5⟩
          have HR5 := hide ((unhide HR).below hb5)
          have HV5 := hide ((unhide HV).below hb5)
          have HW5 := hide ((unhide HW).trans (hb5.mono (unhide HW).size))
          have cB := (unhide HR5).cell i (by rw [List.length_append, len_dvals, List.length_replicate]; omega)
          have fB := (unhide HR5).frozen i
          clear hb5 HR HV HW HKc k0 k1 k2 k3 Hd
          have HR6 : Hid (RowAt 3 (w5.setCell ⟨B, i, none⟩ (.int .i64 (coef (withSum q wd) i wd : Int))) B [] (dvals q wd (i + 1) ++ List.replicate (p - (i + 1)) (Value.int .i64 0))) := by
            show RowAt _ _ _ _ _
            have h := (unhide HR5).set i (by rw [List.length_append, len_dvals, List.length_replicate]; omega) (.int .i64 (digit q wd i : Int))
            rw [dvals_set q wd p i hlt] at h
            exact h
          have HW6 : Hid (Below wA.heap.size wA (w5.setCell ⟨B, i, none⟩ (.int .i64 (coef (withSum q wd) i wd : Int)))) := hide ((unhide HW5).setCell (unhide HBg) _)
          have HV6 : Hid (BytesAt (w5.setCell ⟨B, i, none⟩ (.int .i64 (coef (withSum q wd) i wd : Int))) v3 (withSum q wd)) := hide ((unhide HV5).set_other B i _ (unhide Hne))
          go_wp2
          go_roundw
          case rel =>
            first
              | exact ⟨i + 1, by omega, by go_num, HR6, HV6, HW6⟩
              | ((repeat apply Exists.intro); exact ⟨⟨i + 1, by omega, by go_num, HR6, HV6, HW6⟩, rfl⟩)
          case measure => simp [intOf]; omega
        · obtain rfl : i = p := by omega
          have di : decide ((i : Int) < (i : Int)) = false := by simp
          have HF : Hid (OwnV 3 wd2 w0.heap.size (.slice (some ⟨B, 0, none⟩) i i) (dvals q wd i)) := by
            show OwnV _ _ _ _ _
            have h := unhide HR
            rw [Nat.sub_self, List.replicate_zero, List.append_nil] at h
            exact h.own (Nat.le_trans (unhide HB).size (unhide HBg)) i i (len_dvals q wd i) rfl (by simp only [maxLen]; omega)
          have HFb := hide ((unhide HB).trans ((unhide HW).mono (unhide HB).size))
          go_wp2
          go_ret
          exact ⟨_, rfl, unhide HF, unhide HFb⟩
end Go.Proofs.YtlhjifdahagkaaaDoor
/-
  The walk of the landed leaf.messageDigits.
-/
namespace Go.Proofs.YtlhjifdahagkaaaDoor
open Go.RowKit
set_option maxRecDepth 100000 in
set_option maxHeartbeats 4000000 in
theorem mdigits_c {R : World → Prop} {H : Bs → Bs} (C : CHash R H) (w0 : World) (hr : R w0) (xi xc xm : Value) (id cc msg : Bs) (hi : BytesAt w0 xi id) (hc : BytesAt w0 xc cc) (hm : BytesAt w0 xm msg) (li : id.length ≤ 1000) (lc : cc.length ≤ 1000) (lm : msg.length ≤ 1000) (wd : Nat) (hw : IsW wd) (k : Int) (q : Nat) (hq : q < 4294967296) :
    Calls Tryd.prog 75 #[.agg #[.int .i64 (wd : Int), .int .i64 k, .int .i64 (pW wd : Int), .int .i64 (lsW wd : Int), xi, .int .i64 (q : Int)], xc, xm] w0 fun e w' => ∃ v, e = .returned v ∧ OwnV 3 w' w0.heap.size v (dvals (hashed H id q cc msg) wd (pW wd)) ∧ Below w0.heap.size w0 w' := by
  obtain ⟨p, hp⟩ : ∃ p, pW wd = p := ⟨_, rfl⟩
  obtain ⟨ls, hls⟩ : ∃ ls, lsW wd = ls := ⟨_, rfl⟩
  have HD := fun w x q' h1 h2 => digits_c C w x q' h1 h2 wd hw k
  rw [hp, hls] at HD
  rw [hp, hls]
  have hbA : Below w0.heap.size w0 (w0.alloc (.cells #[.int .i64 (wd : Int), .int .i64 k, .int .i64 (p : Int), .int .i64 (ls : Int), xi, .int .i64 (q : Int)] 95)) := (Below.refl _ _).alloc (Nat.le_refl _) _
  have hK := agg_new w0 [.int .i64 (wd : Int), .int .i64 k, .int .i64 (p : Int), .int .i64 (ls : Int), xi, .int .i64 (q : Int)] 95
  obtain ⟨wA, hwA⟩ : ∃ wA, w0.alloc (.cells #[.int .i64 (wd : Int), .int .i64 k, .int .i64 (p : Int), .int .i64 (ls : Int), xi, .int .i64 (q : Int)] 95) = wA := ⟨_, rfl⟩
  rw [hwA] at hbA hK
  obtain ⟨sc, nc, kc, rfl⟩ := hc.forms
  obtain ⟨sm, nm, km, rfl⟩ := hm.forms
  have c0 := hK.c 0 _ rfl
  have c1 := hK.c 1 _ rfl
  have c2 := hK.c 2 _ rfl
  have c3 := hK.c 3 _ rfl
  have c4 := hK.c 4 _ rfl
  have c5 := hK.c 5 _ rfl
  have hbd : Below w0.heap.size w0 wA.drew := hbA.drew
  have hKd : AggAt wA.drew w0.heap.size _ := hK.below (Below.refl _ _).drew
  have HB := hide hbd
  have HKd := hide hKd
  have HDh := hide HD
  have Hll := ll_new2 wA.drew (.slice sc nc kc) (.slice sm nm km) cc msg 24 (hc.below hbd) (hm.below hbd)
  have hbL : Below wA.drew.heap.size wA.drew (wA.drew.alloc (.cells #[.slice sc nc kc, .slice sm nm km] 24)) := (Below.refl _ _).alloc (Nat.le_refl _) _
  have Hh := hide (C.hash _ xi _ id q 0x8181 [cc, msg] (C.below _ _ (C.below _ _ hr hbd) hbL) ((hi.below hbd).below hbL) Hll hq (by omega) li (by simp; omega) (by simp))
  have HbL := hide hbL
  have HC := hide C
  clear hi hc hm hr hbA hbd hK hKd HD Hll hbL C
  go_enter Tryd.func75, Tryd.ntmps75
  go_wp2
  go_region_held3 (fun w' => w'.cell? ⟨w0.heap.size, 0, none⟩ = some (.int .i64 (wd : Int)) ∧ w'.cell? ⟨w0.heap.size, 1, none⟩ = some (.int .i64 k) ∧ w'.cell? ⟨w0.heap.size, 2, none⟩ = some (.int .i64 (p : Int)) ∧ w'.cell? ⟨w0.heap.size, 3, none⟩ = some (.int .i64 (ls : Int)) ∧ w'.cell? ⟨w0.heap.size, 4, none⟩ = some xi ∧ w'.cell? ⟨w0.heap.size, 5, none⟩ = some (.int .i64 (q : Int))) (go_keep)
    ((first
      | (go_at_call 50; refine (unhide Hh).mono ?_; rintro e w3 ⟨v3, rfl, hR3⟩; have HR3 := hide hR3; have hb3 := (unhide HbL).trans (hR3.b.mono (unhide HbL).size); have HK3 := hide ((unhide HKd).below hb3); have HB3 := hide ((unhide HB).trans (hb3.mono (unhide HB).size)); have m0 := (unhide HK3).c 0 _ rfl; have m1 := (unhide HK3).c 1 _ rfl; have m2 := (unhide HK3).c 2 _ rfl; have m3 := (unhide HK3).c 3 _ rfl; have m4 := (unhide HK3).c 4 _ rfl; have m5 := (unhide HK3).c 5 _ rfl; clear hR3 hb3)
      | (go_at_call 85; refine ((unhide HDh) w3 v3 _ (unhide HR3).bytes ((unhide HC).len _)).mono ?_; rintro e w4 ⟨v4, rfl, hO4, hb4⟩; have HO4 := hide hO4; have HK4 := hide ((unhide HK3).below hb4); have HB4 := hide ((unhide HB3).trans (hb4.mono (unhide HB3).size)); have n0 := (unhide HK4).c 0 _ rfl; have n1 := (unhide HK4).c 1 _ rfl; have n2 := (unhide HK4).c 2 _ rfl; have n3 := (unhide HK4).c 3 _ rfl; have n4 := (unhide HK4).c 4 _ rfl; have n5 := (unhide HK4).c 5 _ rfl; clear hO4 hb4)))
  have HF : Hid (OwnV 3 w4 w0.heap.size v4 (dvals (hashed H id q cc msg) wd p)) := by
    show OwnV _ _ _ _ _
    have h := (unhide HO4).mono (unhide HB3).size
    have e : H (head id q 0x8181 ++ ([cc, msg] : List Bs).flatten) = hashed H id q cc msg := by unfold hashed; simp
    rw [e] at h
    exact h
  go_wp2
  go_ret
  exact ⟨_, rfl, unhide HF, unhide HB4⟩
end Go.Proofs.YtlhjifdahagkaaaDoor
