/-
  A list of slices of bytes that is being filled, place by place.
-/
import Derived.Test.YtlhjifdahagkaaaDoorM07
import Derived.Test.YtlhjifdahagkaaaDoorM04
import Derived.Test.YtlhjifdahagkaaaDoorM03
namespace Go.Proofs.YtlhjifdahagkaaaDoor
open Go.RowKit
theorem Ebb : Elem Tryd.prog 63 24 (.slice none 0 0) 24 := elem_of Tryd.underlying63 (by kernel_rfl) rfl (by omega)
/-- A row of n slices in the block B; those at the places of f hold its bytes. -/
def Fill (w : World) (B n : Nat) (f : Nat → Option Bs) : Prop :=
  ∃ cs : List Value, cs.length = n ∧ RowAt 24 w B [] cs ∧ (∀ i, i < n → ∃ s m c, cs.getD i undef = .slice s m c) ∧ ∀ i l, i < n → f i = some l → l ≠ [] ∧ BytesAt w (cs.getD i undef) l
theorem Fill.below {a b : World} {B n : Nat} {f : Nat → Option Bs} (h : Fill a B n f) (hb : Below a.heap.size a b) : Fill b B n f := by
  obtain ⟨cs, h1, h2, h3, h4⟩ := h
  exact ⟨cs, h1, h2.below hb, h3, fun i l hi hl => ⟨(h4 i l hi hl).1, (h4 i l hi hl).2.below hb⟩⟩
theorem Fill.drew {a : World} {B n : Nat} {f : Nat → Option Bs} (h : Fill a B n f) : Fill a.drew B n f := h.below (Below.refl _ _).drew
theorem Fill.less {w : World} {B n : Nat} {f g : Nat → Option Bs} (h : Fill w B n f) (hg : ∀ i l, i < n → g i = some l → f i = some l) : Fill w B n g := by
  obtain ⟨cs, h1, h2, h3, h4⟩ := h
  exact ⟨cs, h1, h2, h3, fun i l hi hl => h4 i l hi (hg i l hi hl)⟩
theorem Fill.lt {w : World} {B n : Nat} {f : Nat → Option Bs} (h : Fill w B n f) : B < w.heap.size := by
  obtain ⟨cs, _, h2, _⟩ := h
  exact h2.lt
theorem Fill.apart {w : World} {B n : Nat} {f : Nat → Option Bs} (h : Fill w B n f) {x : Value} {l : Bs} (hx : BytesAt w x l) (hl : l ≠ []) : x.ownBlock ≠ some B := by
  obtain ⟨cs, h1, h2, h3, _⟩ := h
  obtain ⟨sp, c, rfl, _, _, hc⟩ := bytes_open hx
  obtain ⟨b, o, rfl, _, hcell⟩ := hc hl
  intro e
  simp only [Value.ownBlock, Option.some.injEq] at e
  have hpos : 0 < l.length := Nat.pos_of_ne_zero fun e => hl (List.eq_nil_of_length_eq_zero e)
  have h0 := hcell 0 hpos
  rw [Nat.add_zero, e, cell_of_row w B o _ 24 (0, 0) h2, List.append_nil, List.getElem?_toArray] at h0
  have ho : o < n := by rw [← h1]; exact (List.getElem?_eq_some_iff.1 h0).1
  obtain ⟨s, m, c', e2⟩ := h3 o ho
  rw [List.getD_eq_getElem?_getD, h0] at e2
  simp at e2
theorem Fill.cell {w : World} {B n : Nat} {f : Nat → Option Bs} (h : Fill w B n f) (i : Nat) (hi : i < n) : ∃ v, w.cell? ⟨B, i, none⟩ = some v := by
  obtain ⟨cs, h1, h2, _⟩ := h
  exact ⟨_, h2.cell i (by omega)⟩
theorem Fill.frozen {w : World} {B n : Nat} {f : Nat → Option Bs} (h : Fill w B n f) (i : Nat) : w.frozen? ⟨B, i, none⟩ = false := by
  obtain ⟨cs, h1, h2, _⟩ := h
  exact h2.frozen i
theorem Fill.get {w : World} {B n : Nat} {f : Nat → Option Bs} (h : Fill w B n f) (i : Nat) (hi : i < n) (l : Bs) (hl : f i = some l) : ∃ v, w.cell? ⟨B, i, none⟩ = some v ∧ BytesAt w v l := by
  obtain ⟨cs, h1, h2, _, h4⟩ := h
  exact ⟨_, h2.cell i (by omega), (h4 i l hi hl).2⟩
theorem Fill.set {w : World} {B n : Nat} {f : Nat → Option Bs} (h : Fill w B n f) (i : Nat) (hi : i < n) (v : Value) (l : Bs) (hv : BytesAt w v l) (hl : l ≠ []) : Fill (w.setCell ⟨B, i, none⟩ v) B n (fun j => if j = i then some l else f j) := by
  have ha := fun (x : Value) (m : Bs) (h1 : BytesAt w x m) (h2 : m ≠ []) => h.apart h1 h2
  obtain ⟨cs, h1, h2, h3, h4⟩ := h
  have hg : ∀ j, j ≠ i → (cs.set i v).getD j undef = cs.getD j undef := fun j hj => by
    rw [List.getD_eq_getElem?_getD, List.getD_eq_getElem?_getD, List.getElem?_set_ne (by omega)]
  have he : (cs.set i v).getD i undef = v := by
    rw [List.getD_eq_getElem?_getD, List.getElem?_set_self (by omega)]; rfl
  refine ⟨cs.set i v, by rw [List.length_set]; exact h1, h2.set i (by omega) v, fun j hj => ?_, fun j m hj hm => ?_⟩
  · by_cases e : j = i
    · rw [e, he]; exact hv.forms
    · rw [hg j e]; exact h3 j hj
  · by_cases e : j = i
    · dsimp only at hm
      rw [if_pos e] at hm
      cases hm
      rw [e, he]
      exact ⟨hl, hv.set_other B i v (ha v l hv hl)⟩
    · dsimp only at hm
      rw [if_neg e] at hm
      rw [hg j e]
      have := h4 j m hj hm
      exact ⟨this.1, this.2.set_other B i v (ha _ _ this.2 this.1)⟩
theorem Fill.list {w : World} {B n : Nat} {f : Nat → Option Bs} (h : Fill w B n f) (g : Nat → Bs) (hg : ∀ i, i < n → f i = some (g i)) : LL w (.slice (some ⟨B, 0, none⟩) n n) ((List.range n).map g) := by
  obtain ⟨cs, h1, h2, h3, h4⟩ := h
  refine ⟨cs, ⟨some ⟨B, 0, none⟩, n, by rw [h1], by omega, fun h => (by cases h), fun _ => ⟨B, 0, rfl, fun j v hv => ?_⟩⟩, by simp [h1], fun i hi => ?_⟩
  · rw [cell_of_row w B _ _ 24 (0, 0) h2, Nat.zero_add, List.append_nil, List.getElem?_toArray]; exact hv
  · rw [List.length_map, List.length_range] at hi
    have := (h4 i (g i) hi (hg i hi)).2
    rw [show ((List.range n).map g).getD i [] = g i by simp [List.getD_eq_getElem?_getD, hi]]
    exact this
/-- A make of n slices. -/
theorem made_fill (w : World) (n : Nat) (hn : n ≤ 100000) : ∃ W, (Instr.makeSlice 63 (.int .i64 (n : Int)) (.int .i64 (n : Int))).run Tryd.prog w = .ok (.slice (some ⟨w.heap.size, 0, none⟩) n n) W ∧ Fill W w.heap.size n (fun _ => none) ∧ Below w.heap.size w W := by
  obtain ⟨W, h1, h2, h3⟩ := made_vals Ebb rfl w .i64 .i64 n (n : Int) (n : Int) rfl rfl (by omega)
  refine ⟨W, h1, ⟨_, by simp, h2, fun i hi => ⟨none, 0, 0, ?_⟩, fun i l hi hl => (by cases hl)⟩, h3⟩
  simp [List.getD_eq_getElem?_getD, hi]
/-- The ends, one by one. -/
theorem ends_flat (H : Bs → Bs) (id seed : Bs) (w q : Nat) : ∀ p, ((List.range p).map fun i => steps H id q i (secret H id seed q i) 0 (2 ^ w - 1)).flatten = endsTo H id seed w q p
  | 0 => rfl
  | p + 1 => by rw [List.range_succ, List.map_append, List.flatten_append, ends_flat H id seed w q p, endsTo]; simp
theorem sig_flat (H : Bs → Bs) (id : Bs) (w q : Nat) (d : Nat → Nat) (s : Nat → Bs) : ∀ p, ((List.range p).map fun i => steps H id q i (s i) (d i) (2 ^ w - 1 - d i)).flatten = endsOfSig H id w q d s p
  | 0 => rfl
  | p + 1 => by rw [List.range_succ, List.map_append, List.flatten_append, sig_flat H id w q d s p, endsOfSig]; simp
end Go.Proofs.YtlhjifdahagkaaaDoor
/-
  The walk of the landed leaf.key.
-/
namespace Go.Proofs.YtlhjifdahagkaaaDoor
open Go.RowKit
theorem pow_w {wd : Nat} (hw : IsW wd) : 1 ≤ 2 ^ wd - 1 ∧ 2 ^ wd - 1 ≤ 255 := by rcases hw with rfl | rfl | rfl | rfl <;> decide
theorem p_w {wd : Nat} (hw : IsW wd) : 34 ≤ pW wd ∧ pW wd ≤ 265 := by rcases hw with rfl | rfl | rfl | rfl <;> decide
set_option maxRecDepth 100000 in
set_option maxHeartbeats 4000000 in
theorem lkey_c {R : World → Prop} {H : Bs → Bs} (C : CHash R H) (w0 : World) (hr : R w0) (xi xs : Value) (id seed : Bs) (hi : BytesAt w0 xi id) (hs : BytesAt w0 xs seed) (li : id.length ≤ 1000) (lse : seed.length ≤ 1000) (wd : Nat) (hw : IsW wd) (k s : Int) (q : Nat) (hq : q < 4294967296) :
    GivesB w0 52 #[.agg #[.int .i64 (wd : Int), .int .i64 k, .int .i64 (pW wd : Int), .int .i64 s, xi, .int .i64 (q : Int)], xs] (leafKey H id seed wd q) := by
  have hp2 := p_w hw
  obtain ⟨p, hp⟩ : ∃ p, pW wd = p := ⟨_, rfl⟩
  have HLf : Hid (leafKey H id seed wd q = H (head id q 0x8080 ++ endsTo H id seed wd q p)) := by show _ = _; rw [← hp]; rfl
  rw [hp] at hp2 ⊢
  have hE2 := pow_w hw
  obtain ⟨E, hE⟩ : ∃ E, 2 ^ wd - 1 = E := ⟨_, rfl⟩
  have HLc := fun w (kk pp ss : Int) => last_c w wd hw kk pp ss
  have HEf : Hid (∀ i, ((List.range i).map fun i => steps H id q i (secret H id seed q i) 0 E).flatten = endsTo H id seed wd q i) := fun i => by rw [← hE]; exact ends_flat H id seed wd q i
  rw [hE] at HLc hE2
  have HLh := hide HLc
  obtain ⟨G, hG⟩ : ∃ G : Nat → Bs, (fun i => steps H id q i (secret H id seed q i) 0 E) = G := ⟨_, rfl⟩
  have hGl : ∀ i, (G i).length = 32 := fun i => by rw [← hG]; exact len_steps H C.len _ _ _ _ _ _ (C.len _)
  have hGn : ∀ i, G i ≠ [] := fun i e => by have := hGl i; rw [e] at this; simp at this
  have HG : Hid (∀ i, steps H id q i (secret H id seed q i) 0 E = G i) := fun i => by rw [← hG]
  have HEf2 : Hid (∀ i, ((List.range i).map G).flatten = endsTo H id seed wd q i) := fun i => by rw [← hG]; exact unhide HEf i
  have HGn := hide hGn
  have hbA : Below w0.heap.size w0 (w0.alloc (.cells #[.int .i64 (wd : Int), .int .i64 k, .int .i64 (p : Int), .int .i64 s, xi, .int .i64 (q : Int)] 95)) := (Below.refl _ _).alloc (Nat.le_refl _) _
  have hK := agg_new w0 [.int .i64 (wd : Int), .int .i64 k, .int .i64 (p : Int), .int .i64 s, xi, .int .i64 (q : Int)] 95
  obtain ⟨wA, hwA⟩ : ∃ wA, w0.alloc (.cells #[.int .i64 (wd : Int), .int .i64 k, .int .i64 (p : Int), .int .i64 s, xi, .int .i64 (q : Int)] 95) = wA := ⟨_, rfl⟩
  have hsz : w0.heap.size < wA.heap.size := by rw [← hwA]; simp
  rw [hwA] at hbA hK
  obtain ⟨W1, hmk, hF1, hb1⟩ := made_fill wA p (by omega)
  obtain ⟨B, hB⟩ : ∃ B, wA.heap.size = B := ⟨_, rfl⟩
  rw [hB] at hmk hF1 hsz
  have hne : w0.heap.size ≠ B := by omega
  have hne' : B ≠ w0.heap.size := by omega
  have c2 := hK.c 2 _ rfl
  have HX := hide (hi.below hbA)
  have HS := hide (hs.below hbA)
  have HR := hide (C.below _ _ hr hbA)
  have HB := hide hbA
  have HK := hide hK
  have HC := hide C
  have HBe := hide hB
  have Hl := hide (And.intro li lse)
  have HW1 := hide hb1
  have HF1 : Hid (Fill W1 B p (fun j => if j < 0 then some (G j) else none)) := hide (hF1.less (fun i l _ h => by simp at h))
  have pb : (p : Int) ≤ 265 := by omega
  have pb0 : (0 : Int) ≤ (p : Int) := by omega
  have Eb1 : (E : Int) ≤ 255 := by omega
  clear hi hs hr hbA hK C hE hG HLc hb1 hF1 hB hp hGl hGn HEf
  go_enter Tryd.func52, Tryd.ntmps52
  go_wp2
  go_loopw [13] (fun ii wr => ∃ i : Nat, i ≤ p ∧ ii = .int .i64 (i : Int) ∧ Hid (Fill wr B p (fun j => if j < i then some (G j) else none)) ∧ Hid (Below wA.heap.size wA wr)) (fun ii _ => p - (intOf ii).toNat)
  case atStart => exact ⟨0, by omega, rfl, HF1, HW1⟩
  case round =>
    clear HF1 HW1 hmk c2 hwA
    obtain ⟨i, hi, rfl, HF, HW⟩ := hrel
    have ib : (i : Int) ≤ 265 := by omega
    have ib0 : (0 : Int) ≤ (i : Int) := by omega
    rename World => wc
    by_cases hlt : i < p
    · have il : (i : Int) < (p : Int) := by omega
      have HWd := hide (unhide HW).drew
      have HFd := hide (unhide HF).drew
      have HKc := hide ((unhide HK).below (unhide HW))
      have HKd := hide ((unhide HK).below (unhide HWd))
      have k0 := (unhide HKc).c 0 _ rfl
      have k1 := (unhide HKc).c 1 _ rfl
      have k2 := (unhide HKc).c 2 _ rfl
      have k3 := (unhide HKc).c 3 _ rfl
      have k4 := (unhide HKc).c 4 _ rfl
      have k5 := (unhide HKc).c 5 _ rfl
      go_wp2
      go_region_held3 (fun w' => w'.cell? ⟨w0.heap.size, 0, none⟩ = some (.int .i64 (wd : Int)) ∧ w'.cell? ⟨w0.heap.size, 1, none⟩ = some (.int .i64 k) ∧ w'.cell? ⟨w0.heap.size, 2, none⟩ = some (.int .i64 (p : Int)) ∧ w'.cell? ⟨w0.heap.size, 3, none⟩ = some (.int .i64 s) ∧ w'.cell? ⟨w0.heap.size, 4, none⟩ = some xi ∧ w'.cell? ⟨w0.heap.size, 5, none⟩ = some (.int .i64 (q : Int))) (go_keep)
        ((first
          | (go_at_call 74; refine ((unhide HLh) _ _ _ _).mono ?_; rintro e w3 ⟨rfl, hb3⟩; have HW3 := hide ((unhide HWd).trans (hb3.mono (unhide HWd).size)); have HF3 := hide ((unhide HFd).below hb3); have HK3 := hide ((unhide HKd).below hb3); have m0 := (unhide HK3).c 0 _ rfl; have m1 := (unhide HK3).c 1 _ rfl; have m2 := (unhide HK3).c 2 _ rfl; have m3 := (unhide HK3).c 3 _ rfl; have m4 := (unhide HK3).c 4 _ rfl; have m5 := (unhide HK3).c 5 _ rfl; clear hb3)
          | (go_at_call 56; refine (secret_c (unhide HC) w3 ((unhide HC).below _ _ (unhide HR) (unhide HW3)) xi xs id seed ((unhide HX).below (unhide HW3)) ((unhide HS).below (unhide HW3)) (unhide Hl).1 (unhide Hl).2 q i hq (by omega)).mono ?_; rintro e w4 ⟨v4, rfl, hR4⟩; have HR4 := hide hR4; have HW4 := hide ((unhide HW3).trans (hR4.b.mono (unhide HW3).size)); have HF4 := hide ((unhide HF3).below hR4.b); have HK4 := hide ((unhide HK3).below hR4.b); have n0 := (unhide HK4).c 0 _ rfl; have n1 := (unhide HK4).c 1 _ rfl; have n2 := (unhide HK4).c 2 _ rfl; have n3 := (unhide HK4).c 3 _ rfl; have n4 := (unhide HK4).c 4 _ rfl; have n5 := (unhide HK4).c 5 _ rfl; clear hR4)
          | (go_at_call 73; refine (steps_c (unhide HC) w4 ((unhide HC).below _ _ (unhide HR) (unhide HW4)) _ _ _ _ xi v4 id (secret H id seed q i) ((unhide HX).below (unhide HW4)) (unhide HR4).bytes (unhide Hl).1 (by rw [len_secret H (unhide HC).len]; omega) q i 0 E E hq (by omega) (Nat.zero_add _) (by omega)).mono ?_; rintro e w5 ⟨v5, rfl, hV5, _, hb5⟩; obtain ⟨s5, n5, c5, rfl⟩ := hV5.forms; have HV5 := hide hV5; have HW5 := hide ((unhide HW4).trans (hb5.mono (unhide HW4).size)); have HF5 := hide ((unhide HF4).below hb5); have HK5 := hide ((unhide HK4).below hb5); obtain ⟨u5, cB⟩ := (unhide HF5).cell i hlt; have fB := (unhide HF5).frozen i; have o0 := (unhide HK5).c 0 _ rfl; have o1 := (unhide HK5).c 1 _ rfl; have o2 := (unhide HK5).c 2 _ rfl; have o3 := (unhide HK5).c 3 _ rfl; have o4 := (unhide HK5).c 4 _ rfl; have o5 := (unhide HK5).c 5 _ rfl; clear hV5 hb5)))
      have HF6 : Hid (Fill (w5.setCell ⟨B, i, none⟩ (.slice s5 n5 c5)) B p (fun j => if j < i + 1 then some (G j) else none)) := by
        show Fill _ _ _ _
        have h5 := unhide HV5
        rw [unhide HG i] at h5
        refine ((unhide HF5).set i hlt _ (G i) h5 (unhide HGn i)).less fun j l _ hl => ?_
        by_cases e : j = i
        · subst e; simpa using hl
        · simp only [if_neg e]
          by_cases h2 : j < i
          · rw [if_pos (show j < i + 1 by omega)] at hl; rw [if_pos h2]; exact hl
          · rw [if_neg (show ¬ j < i + 1 by omega)] at hl; cases hl
      have HW6 : Hid (Below wA.heap.size wA (w5.setCell ⟨B, i, none⟩ (.slice s5 n5 c5))) := hide ((unhide HW5).setCell (by have := unhide HBe; show _ ≤ B; omega) _)
      go_wp2
      go_roundw
      case rel =>
        first
          | exact ⟨i + 1, by omega, by go_num, HF6, HW6⟩
          | ((repeat apply Exists.intro); exact ⟨⟨i + 1, by omega, by go_num, HF6, HW6⟩, rfl⟩)
      case measure => simp [intOf]; omega
    · obtain rfl : i = p := by omega
      have di : decide ((i : Int) < (i : Int)) = false := by simp
      have HKc := hide ((unhide HK).below (unhide HW))
      have k4 := (unhide HKc).c 4 _ rfl
      have k5 := (unhide HKc).c 5 _ rfl
      have HL := hide ((unhide HF).list G (fun j hj => by rw [if_pos hj]))
      have hfl : ((List.range i).map G).flatten.length ≤ 1000000 := by rw [unhide HEf2, len_ends H (unhide HC).len]; omega
      go_wp2_with fail
      refine ((unhide HC).hash wc xi _ id q 0x8080 ((List.range i).map G) ((unhide HC).below _ _ (unhide HR) (unhide HW)) ((unhide HX).below (unhide HW)) (unhide HL) hq (by omega) (unhide Hl).1 hfl (by simp; omega)).mono ?_
      rintro e w6 ⟨v6, rfl, hR6⟩
      have HFi : Hid (Row w0 w6 v6 (leafKey H id seed wd q)) := by
        show Row _ _ _ _
        rw [unhide HEf2, ← unhide HLf] at hR6
        exact (hR6.up (unhide HW)).up (unhide HB)
      clear hR6
      go_wp2
      go_ret
      exact ⟨_, rfl, unhide HFi⟩
end Go.Proofs.YtlhjifdahagkaaaDoor
/-
  The walk of the reference's holds: is it a signature of a tree?
-/
namespace Go.Proofs.YtlhjifdahagkaaaDoor
open Go.RowKit
theorem len_part (b : Bs) (f n : Nat) (h : f + n ≤ b.length) : (part b f n).length = n := by unfold part; rw [List.length_take, List.length_drop]; omega
theorem len_endsOfSig (H : Bs → Bs) (hH : ∀ l, (H l).length = 32) (id : Bs) (w q : Nat) (d : Nat → Nat) (s : Nat → Bs) : ∀ p, (∀ i, i < p → (s i).length = 32) → (endsOfSig H id w q d s p).length = 32 * p
  | 0, _ => rfl
  | p + 1, hs => by
    rw [endsOfSig, List.length_append, len_endsOfSig H hH id w q d s p (fun i hi => hs i (by omega)), len_steps H hH _ _ _ _ _ _ (hs p (by omega))]
    omega
/-- A part of a slice of bytes: its value, and what it holds. -/
theorem part_val {w0 : World} {sp : Option Addr} {c : Nat} {b : Bs} (h : BytesAt w0 (.slice sp b.length c) b) (hc : b.length ≤ c) (f n : Nat) (hf : f + n ≤ b.length) :
    ∃ y, (∀ w, (Instr.sliceAt 24 (.slice sp b.length c) (some (.int .i64 (f : Int))) (some (.int .i64 ((f + n : Nat) : Int))) none).run Tryd.prog w = .ok y w) ∧ BytesAt w0 y (part b f n) := by
  have h2 := bytes_part h f (f + n) (by omega) hf
  rw [Nat.add_sub_cancel_left] at h2
  refine ⟨_, fun w => ?_, h2⟩
  rw [slice_mid sp b.length c f (f + n) (by omega) (by omega) w, Nat.add_sub_cancel_left]
theorem rest_val {w0 : World} {sp : Option Addr} {c : Nat} {b : Bs} (h : BytesAt w0 (.slice sp b.length c) b) (f : Nat) (hf : f ≤ b.length) :
    ∃ y, (∀ w, (Instr.sliceAt 24 (.slice sp b.length c) (some (.int .i64 (f : Int))) none none).run Tryd.prog w = .ok y w) ∧ BytesAt w0 y (b.drop f) :=
  ⟨_, fun w => slice_rest sp b.length c f hf w, bytes_rest h f hf⟩
set_option maxRecDepth 100000 in
set_option maxHeartbeats 4000000 in
theorem holds_any {H : Bs → Bs} (C : RefHash H) (w0 : World) (xp xm xs : Value) (pk msg sig : Bs) (hp : BytesAt w0 xp pk) (hm : BytesAt w0 xm msg) (hs : BytesAt w0 xs sig) (lp : 56 ≤ pk.length) (lp2 : pk.length ≤ 100000) (lm : msg.length ≤ 100000)
    (h wd : Nat) (hhe : hOf (num4 pk) = h) (hh1 : 1 ≤ h) (hh : h ≤ 6) (hwe : wOf (num4 (pk.drop 4)) = wd) (hw : IsW wd) (ls : sizeOf h wd ≤ sig.length) (ls2 : sig.length ≤ 100000) :
    Calls Tryd.prog 44 #[xp, xm, xs] w0 fun e w' => e = .returned (.bool (holdsB H pk msg sig)) ∧ Below w0.heap.size w0 w' := by
  have HC := hide C
  have HX := hide hp
  have HM := hide hm
  have HS := hide hs
  obtain ⟨pp, pc, rfl, hpc, _, _⟩ := bytes_open hp
  obtain ⟨sp, sc, rfl, hsc, _, _⟩ := bytes_open hs
  obtain ⟨p, hpe⟩ : ∃ p, pW wd = p := ⟨_, rfl⟩
  have hpb : p ≤ 265 := by rw [← hpe]; rcases hw with rfl | rfl | rfl | rfl <;> simp [pW]
  have hp0 : 0 < p := by rw [← hpe]; rcases hw with rfl | rfl | rfl | rfl <;> simp [pW]
  have hsz : 44 + 32 * p + 32 * h ≤ sig.length := by unfold sizeOf at ls; rw [hpe] at ls; omega
  have Hw := hide hw
  have Hpe := hide hpe
  have Hwi := hide (widthOf_of hw)
  obtain ⟨tw, htw⟩ : ∃ tw, tyW wd = tw := ⟨_, rfl⟩
  have hwb : tw ≤ 4 := by rw [← htw]; rcases hw with rfl | rfl | rfl | rfl <;> simp [tyW]
  obtain ⟨th, hth⟩ : ∃ th, tyH h = th := ⟨_, rfl⟩
  have htb : th ≤ 4294967296 := by rw [← hth]; unfold tyH; split <;> omega
  have Hty := hide (fun w => type_any h hh w)
  rw [hth] at Hty
  rw [htw, hpe] at Hwi
  have Hshape := hide (shape_any w0 _ pk hp lp lp2)
  rw [hhe, hwe] at Hshape
  obtain ⟨id, hid⟩ : ∃ id, part pk 8 16 = id := ⟨_, rfl⟩
  have Hid16 : Hid (id.length = 16) := by show _ = _; rw [← hid]; exact len_part _ _ _ (by omega)
  obtain ⟨q, hq⟩ : ∃ q, num4 sig = q := ⟨_, rfl⟩
  have hqb : q < 4294967296 := by rw [← hq]; exact num4_lt _
  obtain ⟨A, hA⟩ : ∃ A, num4 (sig.drop 4) = A := ⟨_, rfl⟩
  have hAb : A < 4294967296 := by rw [← hA]; exact num4_lt _
  obtain ⟨B, hB⟩ : ∃ B, num4 (sig.drop (40 + 32 * p)) = B := ⟨_, rfl⟩
  have hBb : B < 4294967296 := by rw [← hB]; exact num4_lt _
  obtain ⟨c, hc⟩ : ∃ c, part sig 8 32 = c := ⟨_, rfl⟩
  have HcL : Hid (c.length = 32) := by show _ = _; rw [← hc]; exact len_part _ _ _ (by omega)
  obtain ⟨D, hD⟩ : ∃ D, hashed H id q c msg = D := ⟨_, rfl⟩
  have HDL : Hid (D.length = 32) := by show _ = _; rw [← hD]; exact C.len _
  obtain ⟨E, hE⟩ : ∃ E, endsOfSig H id wd q (digit D wd) (sigPart sig wd) p = E := ⟨_, rfl⟩
  obtain ⟨G, hG⟩ : ∃ G, 2 ^ h + q = G := ⟨_, rfl⟩
  obtain ⟨X0, hX0⟩ : ∃ X0, H (head id G 0x8282 ++ H (head id q 0x8080 ++ E)) = X0 := ⟨_, rfl⟩
  obtain ⟨XF, hXF⟩ : ∃ XF, climb H id (pathPart sig wd) h G X0 = XF := ⟨_, rfl⟩
  have HF : Hid (holdsB H pk msg sig = (decide (A = tw) && decide (B = th) && decide (q < 2 ^ h) && decide (XF = part pk 24 32))) := by
    show _ = _
    unfold holdsB
    rw [hwe, hhe, hpe, hid, hq, hA, hB, hc, hD, hE, hG, hX0, hXF, htw, hth]
  obtain ⟨ys4, s4, b4⟩ := rest_val hs 4 (by omega)
  obtain ⟨ysB, sB, bB⟩ := rest_val hs (40 + 32 * p) (by omega)
  obtain ⟨yid, sid, bid⟩ := part_val hp hpc 8 16 (by omega)
  obtain ⟨yc, s8, bc⟩ := part_val hs hsc 8 32 (by omega)
  obtain ⟨yr, s24, br⟩ := part_val hp hpc 24 32 (by omega)
  have HnS := hide (fun w (hb : Below w0.heap.size w0 w) => number_any w _ sig (hs.below hb) (by omega) (by omega))
  have HnA := hide (fun w (hb : Below w0.heap.size w0 w) => number_any w _ (sig.drop 4) (b4.below hb) (by rw [List.length_drop]; omega) (by rw [List.length_drop]; omega))
  have HnB := hide (fun w (hb : Below w0.heap.size w0 w) => number_any w _ (sig.drop (40 + 32 * p)) (bB.below hb) (by rw [List.length_drop]; omega) (by rw [List.length_drop]; omega))
  rw [hq] at HnS
  rw [hA] at HnA
  rw [hB] at HnB
  rw [hid] at bid
  rw [hc] at bc
  have Bid := hide bid
  have Bc := hide bc
  have Br := hide br
  have Hparts := hide (fun (f : Nat) (hf : f + 32 ≤ sig.length) => part_val hs hsc f 32 hf)
  obtain ⟨F, hFe⟩ : ∃ F, 40 + 32 * p = F := ⟨_, rfl⟩
  rw [hFe] at sB
  have hFi : (40 : Int) + 32 * (p : Int) = (F : Int) := by omega
  simp only [Nat.reduceAdd, Int.cast_ofNat_Int] at s4 sid s8 s24
  have HD := hide hD
  have HE := hide hE
  have HG := hide hG
  have HX0 := hide hX0
  have HXF := hide hXF
  have Hl := hide (And.intro lp (And.intro lm (And.intro hsz ls2)))
  have pb : (p : Int) ≤ 265 := by omega
  have hb : (h : Int) ≤ 6 := by omega
  have hb1 : (1 : Int) ≤ (h : Int) := by omega
  have Ab : (A : Int) < 4294967296 := by omega
  have Bb : (B : Int) < 4294967296 := by omega
  have qb' : (q : Int) < 4294967296 := by omega
  clear C hp hm hs hw ls hpe htw hth hid hq hA hB hc hD hE hG hX0 hXF b4 bB bid bc br hhe hwe hFe lp lp2 lm
  go_enter Tryd.func44, Tryd.ntmps44
  go_wp2_with fail
  refine (unhide Hshape).mono ?_
  rintro e w1 ⟨rfl, hb1'⟩
  have HB1 := hide hb1'
  clear hb1'
  go_wp2_with fail
  refine (width_any (wd : Int) _).mono ?_
  rw [unhide Hwi]
  rintro e w1' ⟨rfl, hw1⟩
  subst hw1
  go_wp2_with fail
  refine (unhide HnS w1' (unhide HB1)).mono ?_
  rintro e w2 ⟨rfl, hb2⟩
  have HB2 := hide ((unhide HB1).trans (hb2.mono (unhide HB1).size))
  clear hb2
  go_wp2_with fail
  refine (unhide HnA w2 (unhide HB2)).mono ?_
  rintro e w3 ⟨rfl, hb2⟩
  have HB3 := hide ((unhide HB2).trans (hb2.mono (unhide HB2).size))
  clear hb2
  by_cases hAt : A = tw
  case neg =>
    have de : ((A : Int) == (tw : Int)) = false := by simp; omega
    have de2 : ((A : Int) != (tw : Int)) = true := by simp; omega
    have Hr : Hid (holdsB H pk msg sig = false) := by show _ = _; rw [unhide HF, decide_eq_false hAt]; rfl
    clear hAt
    go_wp2
    go_ret
    exact ⟨by rw [unhide Hr]; rfl, unhide HB3⟩
  have de : ((A : Int) == (tw : Int)) = true := by simp; omega
  have de2 : ((A : Int) != (tw : Int)) = false := by simp; omega
  have HAt := hide hAt
  clear hAt
  go_wp2_with fail
  refine (unhide HnB w3 (unhide HB3)).mono ?_
  rintro e w4 ⟨rfl, hb2⟩
  have HB4 := hide ((unhide HB3).trans (hb2.mono (unhide HB3).size))
  clear hb2
  go_wp2_with fail
  refine (unhide Hty w4).mono ?_
  rintro e wt ⟨rfl, hwt⟩
  rw [hwt]
  clear hwt wt
  by_cases hBt : B = th
  case neg =>
    have df : ((B : Int) == (th : Int)) = false := by simp; omega
    have df2 : ((B : Int) != (th : Int)) = true := by simp; omega
    have Hr : Hid (holdsB H pk msg sig = false) := by show _ = _; rw [unhide HF, decide_eq_false hBt, Bool.and_false]; rfl
    clear hBt
    go_wp2
    go_ret
    exact ⟨by rw [unhide Hr]; rfl, unhide HB4⟩
  have df : ((B : Int) == (th : Int)) = true := by simp; omega
  have df2 : ((B : Int) != (th : Int)) = false := by simp; omega
  have HBt := hide hBt
  clear hBt
  obtain ⟨Q, hQ⟩ : ∃ Q, 2 ^ h = Q := ⟨_, rfl⟩
  have hQi : (2 : Int) ^ h = (Q : Int) := by rw [← hQ]; simp
  have hQb : Q ≤ 64 := by rw [← hQ]; exact Nat.pow_le_pow_right (show 0 < 2 by omega) hh
  have hQw : IntKind.i64.wrap ((2 : Int) ^ h) = (Q : Int) := by rw [hQi]; exact IntWalk.i64_in _ (by omega)
  rw [hQ] at HF HG
  clear hQ
  by_cases hqQ : q < Q
  case neg =>
    have dq : decide ((Q : Int) ≤ (q : Int)) = true := by simp; omega
    have dq' : decide (Q ≤ q) = true := by simp; omega
    have Hr : Hid (holdsB H pk msg sig = false) := by show _ = _; rw [unhide HF, decide_eq_false hqQ, Bool.and_false]; rfl
    go_wp2
    go_ret
    exact ⟨by rw [unhide Hr]; rfl, unhide HB4⟩
  have dq : decide ((Q : Int) ≤ (q : Int)) = false := by simp; omega
  have dq' : decide (Q ≤ q) = false := by simp; omega
  have HF2 : Hid (holdsB H pk msg sig = decide (XF = part pk 24 32)) := by show _ = _; rw [unhide HF, decide_eq_true (unhide HAt), decide_eq_true (unhide HBt), decide_eq_true hqQ]; rfl
  have qb : (q : Int) < 64 := by omega
  have Hhead := hide (fun w (hb : Below w0.heap.size w0 w) (k i : Nat) (hk : k ≤ 4294967296) (hi : i ≤ 4294967296) => head_any w yid id k i ((unhide Bid).below hb) (by have := unhide Hid16; omega) (by omega) (by omega))
  clear HF HAt HBt
  go_wp2
  have HB4d := hide (unhide HB4).drew
  have Hl7 : Hid ((head id q 0x8181).length + c.length ≤ 1073741824) := by show _ ≤ _; rw [len_head, unhide HcL, unhide Hid16]; omega
  have Hl8 : Hid ((head id q 0x8181 ++ c).length + msg.length ≤ 1073741824) := by show _ ≤ _; have h1 := unhide Hl; rw [List.length_append, len_head, unhide HcL, unhide Hid16]; omega
  have Hhd := hide (unhide Hhead w4.drew (unhide HB4d) q 0x8181 (by omega) (by omega))
  go_region_held3 (fun _ => True) (trivial)
    ((first
      | (go_at_call 58; refine (unhide Hhd).mono ?_; rintro e w5 ⟨v5, rfl, hR⟩; have HR5 := hide hR; have HB5 := hide ((unhide HB4d).trans (hR.b.mono (unhide HB4d).size)); have Bc5 := hide ((unhide Bc).below (unhide HB5)); clear hR)
      | (refine step_append_row rfl _ _ rfl v5 yc (head id q 0x8181) c (by simp [Act.eval]) (unhide HR5) (by simp [Act.eval]) (unhide Bc5) (unhide Hl7) ?_; intro v6 w6 hR _; have HR6 := hide hR; have HB6 := hide ((unhide HB4d).trans (hR.b.mono (unhide HB4d).size)); clear hR)))
  have HM6 := hide ((unhide HM).below (unhide HB6))
  clear Hhd HR5 Bc5 HB5
  go_wp2_with (at_builtin; refine wpList_append_row rfl _ _ rfl v6 xm (head id q 0x8181 ++ c) msg rfl (unhide HR6) rfl (unhide HM6) (unhide Hl8) ?_
               intro v7 w7 hR
               have HR7 := hide hR
               have HB7 := hide ((unhide HB4d).trans (hR.b.mono (unhide HB4d).size))
               clear hR)
  have HDe : Hid (H (head id q 0x8181 ++ c ++ msg) = D) := unhide HD
  have Hsm : Hid (∀ w v, BytesAt w v (head id q 0x8181 ++ c ++ msg) → GivesB w 59 #[v] D) := fun w v hv => by
    rw [← unhide HDe]
    exact (unhide HC).sum w v _ hv (by have h1 := unhide Hl; rw [List.length_append, List.length_append, len_head, unhide HcL, unhide Hid16]; omega)
  have Hdg : Hid (∀ w v, BytesAt w v D → Calls Tryd.prog 60 #[v, .int .i64 (wd : Int)] w fun e w' => ∃ v, e = .returned v ∧ OwnV 3 w' w.heap.size v (dvals D wd p) ∧ Below w.heap.size w w') := fun w v hv => by
    have := digits_any w v D hv (unhide HDL) wd (unhide Hw)
    rw [unhide Hpe] at this
    exact this
  refine (unhide Hsm w7 v7 (unhide HR7).bytes).mono ?_
  rintro e w8 ⟨v8, rfl, hR⟩
  have HV8 := hide hR.bytes
  have HB8 := hide ((unhide HB7).trans (hR.b.mono (unhide HB7).size))
  clear hR
  go_wp2_with fail
  refine (unhide Hdg w8 v8 (unhide HV8)).mono ?_
  rintro e w9 ⟨v9, rfl, hO, hb9⟩
  have HB9 := hide ((unhide HB8).trans (hb9.mono (unhide HB8).size))
  obtain ⟨db, dc, hv9, _, _, hdc⟩ := OwnV.cellAt hO (by intro e0; have := congrArg List.length e0; rw [len_dvals] at this; simp at this; omega)
  rw [len_dvals] at hv9
  subst hv9
  have HOd := hide hO
  clear hO hb9 hdc HR7 HR6 HV8 HM6 Hsm Hdg HDe HB6 HB7 HB8 HB4d Hl7 Hl8
  have Hhd := hide (unhide Hhead w9 (unhide HB9) q 0x8080 (by omega) (by omega))
  go_wp2_with fail
  refine (unhide Hhd).mono ?_
  rintro e w10 ⟨v10, rfl, hR⟩
  have HR0 : Hid (Row w9 w10 v10 (head id q 0x8080 ++ endsOfSig H id wd q (digit D wd) (sigPart sig wd) 0)) := by show Row _ _ _ _; simpa [endsOfSig] using hR
  clear hR Hhd
  have p1 : (2 : Int) ^ wd ≤ 256 := by
    have := Nat.pow_le_pow_right (show 0 < 2 by omega) (show wd ≤ 8 by rcases unhide Hw with rfl | rfl | rfl | rfl <;> omega)
    have e : ((2 ^ wd : Nat) : Int) = 2 ^ wd := by simp
    omega
  have p0 : (0 : Int) < 2 ^ wd := by
    have := Nat.pow_pos (n := wd) (show 0 < 2 by omega)
    have e : ((2 ^ wd : Nat) : Int) = 2 ^ wd := by simp
    omega
  have hwp : IntKind.i64.wrap ((2 : Int) ^ wd) = 2 ^ wd := IntWalk.i64_in _ (by omega)
  obtain ⟨T, hT⟩ : ∃ T, 2 ^ wd - 1 = T := ⟨_, rfl⟩
  have hTi : IntKind.i64.wrap ((2 : Int) ^ wd - 1) = (T : Int) := by
    rw [IntWalk.i64_in _ (by omega)]
    have e : ((2 ^ wd : Nat) : Int) = 2 ^ wd := by simp
    omega
  have hTb : T ≤ 255 := by
    have e : ((2 ^ wd : Nat) : Int) = 2 ^ wd := by simp
    omega
  have HT := hide hT
  have wb : (wd : Int) ≤ 8 := by rcases unhide Hw with rfl | rfl | rfl | rfl <;> omega
  have wb0 : (1 : Int) ≤ (wd : Int) := by rcases unhide Hw with rfl | rfl | rfl | rfl <;> omega
  have Hsl : Hid (∀ i, i < p → (sigPart sig wd i).length = 32) := fun i hi => by have h1 := unhide Hl; exact len_part _ _ _ (by omega)
  clear hT
  go_wp2
  go_loopw [18, 19] (fun ends ii wr => ∃ i : Nat, i ≤ p ∧ ii = .int .i64 (i : Int) ∧ Hid (Row w9 wr ends (head id q 0x8080 ++ endsOfSig H id wd q (digit D wd) (sigPart sig wd) i))) (fun _ ii _ => p - (intOf ii).toNat)
  case atStart => exact ⟨0, by omega, rfl, HR0⟩
  case round =>
    clear HR0
    obtain ⟨i, hi, rfl, HR⟩ := hrel
    have ib : (i : Int) ≤ 265 := by omega
    rename World => wc
    have HBc := hide ((unhide HB9).trans ((unhide HR).b.mono (unhide HB9).size))
    by_cases hlt : i < p
    · have HRd := hide (unhide HR).drew
      have HBd := hide ((unhide HB9).trans ((unhide HRd).b.mono (unhide HB9).size))
      obtain ⟨a, ha⟩ : ∃ a, 40 + 32 * i = a := ⟨_, rfl⟩
      have hai : (40 : Int) + 32 * (i : Int) = (a : Int) := by omega
      obtain ⟨yp, syp, byp⟩ := unhide Hparts a (by have h1 := unhide Hl; omega)
      obtain ⟨e, he⟩ : ∃ e, a + 32 = e := ⟨_, rfl⟩
      have hei : (a : Int) + 32 = (e : Int) := by omega
      have hew : IntKind.i64.wrap ((a : Int) + 32) = (e : Int) := by rw [IntWalk.i64_in _ (by omega)]; omega
      rw [he] at syp
      have Byp : Hid (BytesAt w0 yp (sigPart sig wd i)) := by show BytesAt _ _ _; unfold sigPart; rw [ha]; exact byp
      have Hdc : Hid (∀ w, OwnV 3 w w8.heap.size (.slice (some ⟨db, 0, none⟩) p dc) (dvals D wd p) → w.cell? ⟨db, i, none⟩ = some (.int .i64 (digit D wd i : Int))) := fun w ho => by
        obtain ⟨b', c', e', _, _, hc'⟩ := OwnV.cellAt ho (by intro e0; have := congrArg List.length e0; rw [len_dvals] at this; simp at this; omega)
        simp only [Value.slice.injEq, Option.some.injEq, Addr.mk.injEq] at e'
        obtain ⟨⟨rfl, _, _⟩, _, _⟩ := e'
        rw [hc' i (by rw [len_dvals]; exact hlt), dvals_get _ _ _ _ hlt]
      have cd := unhide Hdc wc ((unhide HOd).below (unhide HR).b)
      have hdg : digit D wd i ≤ T := by
        have h1 := digit_lt D wd i
        have h2 := unhide HT
        omega
      have Hbs : Hid (endsOfSig H id wd q (digit D wd) (sigPart sig wd) (i + 1) = endsOfSig H id wd q (digit D wd) (sigPart sig wd) i ++ steps H id q i (sigPart sig wd i) (digit D wd i) (T - digit D wd i)) := by show _ = _; rw [endsOfSig, unhide HT]
      obtain ⟨dg, hdge⟩ : ∃ dg, digit D wd i = dg := ⟨_, rfl⟩
      rw [hdge] at cd hdg Hdc Hbs
      obtain ⟨lb, hlb⟩ : ∃ lb, endsOfSig H id wd q (digit D wd) (sigPart sig wd) i = lb := ⟨_, rfl⟩
      have Hlb : Hid (lb.length = 32 * i) := by show _ = _; rw [← hlb, len_endsOfSig H (unhide HC).len _ _ _ _ _ _ (fun j hj => unhide Hsl j (by omega))]
      rw [hlb] at HR HRd Hbs
      have Hst := hide (steps_any (unhide HC) wc.drew yid yp id (sigPart sig wd i) ((unhide Bid).below (unhide HBd)) ((unhide Byp).below (unhide HBd)) (by have := unhide Hid16; omega) (by rw [unhide Hsl i hlt]; omega) q i dg T (by omega) (by omega) hdg hTb)
      have Hll : Hid ((head id q 0x8080 ++ lb).length + (steps H id q i (sigPart sig wd i) dg (T - dg)).length ≤ 1073741824) := by
        show _ ≤ _
        rw [List.length_append, len_head, unhide Hid16, unhide Hlb, len_steps H (unhide HC).len _ _ _ _ _ _ (unhide Hsl i hlt)]
        omega
      have i0 : (0 : Int) ≤ (i : Int) := by omega
      have i1 : (i : Int) < (p : Int) := by omega
      have ab : (a : Int) ≤ 10000 := by omega
      clear hlb hdge ha he byp hei
      go_wp2
      go_region_held3 (fun w' => w'.cell? ⟨db, i, none⟩ = some (.int .i64 (dg : Int))) (go_keep)
        ((first
          | (go_at_call 61; refine (unhide Hst).mono ?_; rintro e w12 ⟨v12, rfl, hB, hb⟩; have HV12 := hide hB; have HR12 := hide ((unhide HRd).call hb); have md := unhide Hdc w12 ((unhide HOd).below (unhide HR12).b); clear hB hb)
          | (refine step_append_row rfl _ _ rfl _ v12 (head id q 0x8080 ++ lb) (steps H id q i (sigPart sig wd i) dg (T - dg)) (by simp [Act.eval]) (unhide HR12) (by simp [Act.eval]) (unhide HV12) (unhide Hll) ?_; intro v13 w13 hR _; have HR13 := hide hR; have nd := unhide Hdc w13 ((unhide HOd).below hR.b); clear hR)))
      have HR14 : Hid (Row w9 w13 v13 (head id q 0x8080 ++ endsOfSig H id wd q (digit D wd) (sigPart sig wd) (i + 1))) := by
        show Row _ _ _ _
        rw [unhide Hbs, ← List.append_assoc]
        exact unhide HR13
      clear cd HR HRd HBd Hst Hll HR13
      go_wp2
      go_roundw
      case rel =>
        first
          | exact ⟨i + 1, by omega, by go_num, HR14⟩
          | ((repeat apply Exists.intro); exact ⟨⟨i + 1, by omega, by go_num, HR14⟩, rfl⟩)
      case measure => simp [intOf]; omega
    · obtain rfl : i = p := by omega
      have di : decide ((i : Int) < (i : Int)) = false := by simp
      have hGw : IntKind.i64.wrap ((Q : Int) + (q : Int)) = (G : Int) := by have h1 := unhide HG; rw [IntWalk.i64_in _ (by omega)]; omega
      have hGb : G < 128 := by have h1 := unhide HG; omega
      have gb : (G : Int) < 128 := by omega
      have HEe : Hid (endsOfSig H id wd q (digit D wd) (sigPart sig wd) i = E) := unhide HE
      rw [unhide HEe] at HR
      have HEl : Hid (E.length = 32 * i) := by show _ = _; rw [← unhide HEe, len_endsOfSig H (unhide HC).len _ _ _ _ _ _ (fun j hj => unhide Hsl j (by omega))]
      have Hhd := hide (unhide Hhead wc (unhide HBc) G 0x8282 (by omega) (by omega))
      go_wp2_with fail
      refine (unhide Hhd).mono ?_
      rintro e w14 ⟨v14, rfl, hR2⟩
      have HR2 := hide hR2
      have HE2 := hide ((unhide HR).bytes.below hR2.b)
      have HB14 := hide ((unhide HBc).trans (hR2.b.mono (unhide HBc).size))
      clear hR2 Hhd
      go_wp2_with fail
      refine ((unhide HC).sum w14 _ _ (unhide HE2) (by rw [List.length_append, len_head, unhide Hid16, unhide HEl]; omega)).mono ?_
      rintro e w15 ⟨v15, rfl, hR3⟩
      have HR2' := hide ((unhide HR2).call hR3.b)
      have HV3 := hide hR3.bytes
      have Hl3 : Hid ((head id G 0x8282).length + (H (head id q 0x8080 ++ E)).length ≤ 1073741824) := by show _ ≤ _; rw [len_head, unhide Hid16, (unhide HC).len]; omega
      clear hR3 HR
      go_wp2_with (at_builtin; refine wpList_append_row rfl _ _ rfl v14 v15 (head id G 0x8282) (H (head id q 0x8080 ++ E)) rfl (unhide HR2') rfl (unhide HV3) (unhide Hl3) ?_
                   intro v16 w16 hR4
                   have HR4 := hide hR4
                   clear hR4)
      refine ((unhide HC).sum w16 v16 _ (unhide HR4).bytes (by rw [List.length_append, len_head, unhide Hid16, (unhide HC).len]; omega)).mono ?_
      rw [unhide HX0]
      rintro e w17 ⟨v17, rfl, hR5⟩
      have HV17 : Hid (BytesAt w17 v17 (climb H id (pathPart sig wd) 0 G X0)) := hR5.bytes
      have HB17 : Hid (Below w0.heap.size w0 w17) := by
        show Below _ _ _
        have h1 := (unhide HBc).trans ((unhide HR4).b.mono (unhide HBc).size)
        exact h1.trans (hR5.b.mono h1.size)
      have HXl : Hid (∀ z, (climb H id (pathPart sig wd) z G X0).length = 32) := fun z => by
        cases z with
        | zero => show X0.length = 32; rw [← unhide HX0]; exact (unhide HC).len _
        | succ z => exact (unhide HC).len _
      have Hpl : Hid (∀ z, z < h → (pathPart sig wd z).length = 32) := fun z hz => by have h1 := unhide Hl; exact len_part _ _ _ (by rw [unhide Hpe]; omega)
      clear hR5 HR4 HV3 HR2' HR2 HE2 HB14 HEe HEl Hl3
      go_wp2
      go_loopw [21, 22, 23] (fun rr xx zz wr => ∃ z r : Nat, z ≤ h ∧ zz = .int .i64 (z : Int) ∧ rr = .int .i64 (r : Int) ∧ r < 128 ∧ Hid (r = climb.climbR z G) ∧ Hid (BytesAt wr xx (climb H id (pathPart sig wd) z G X0)) ∧ Hid (Below w0.heap.size w0 wr)) (fun _ _ zz _ => h - (intOf zz).toNat)
      case atStart => exact ⟨0, G, by omega, rfl, rfl, hGb, rfl, HV17, HB17⟩
      case round =>
        clear HV17 HB17
        obtain ⟨z, r, hz, rfl, rfl, hr, Hr, HV, HBz⟩ := hrel
        have zb : (z : Int) ≤ 6 := by omega
        have rb : (r : Int) < 128 := by omega
        rename World => wz
        by_cases hlt : z < h
        · obtain ⟨a, ha⟩ : ∃ a, 44 + 32 * i + 32 * z = a := ⟨_, rfl⟩
          have hai : (44 : Int) + 32 * (i : Int) + 32 * (z : Int) = (a : Int) := by omega
          obtain ⟨yp, syp, byp⟩ := unhide Hparts a (by have h1 := unhide Hl; omega)
          obtain ⟨e, he⟩ : ∃ e, a + 32 = e := ⟨_, rfl⟩
          have hew : IntKind.i64.wrap ((a : Int) + 32) = (e : Int) := by rw [IntWalk.i64_in _ (by omega)]; omega
          rw [he] at syp
          have Byp : Hid (BytesAt w0 yp (pathPart sig wd z)) := by show BytesAt _ _ _; unfold pathPart; rw [unhide Hpe, ha]; exact byp
          obtain ⟨r2, hr2⟩ : ∃ r2, r / 2 = r2 := ⟨_, rfl⟩
          have q1 : (r : Int).tdiv 2 = (r2 : Int) := by rw [Int.tdiv_eq_ediv_of_nonneg (by omega)]; omega
          have hr2b : r2 < 128 := by omega
          have r2b : (r2 : Int) < 128 := by omega
          have Hr2 : Hid (r2 = climb.climbR (z + 1) G) := by show _ = climb.climbR z G / 2; rw [← unhide Hr, hr2]
          have d1 : decide ((z : Int) < (h : Int)) = true := by simp; omega
          have d1' : decide (z < h) = true := by simp; omega
          have ab : (a : Int) ≤ 10000 := by omega
          have Hcl : Hid (climb H id (pathPart sig wd) (z + 1) G X0 = H (head id r2 0x8383 ++ (if r % 2 = 1 then pathPart sig wd z ++ climb H id (pathPart sig wd) z G X0 else climb H id (pathPart sig wd) z G X0 ++ pathPart sig wd z))) := by
            show H (head id (climb.climbR z G / 2) 0x8383 ++ _) = _
            rw [← unhide Hr, hr2]
          obtain ⟨lx, hlx⟩ : ∃ lx, climb H id (pathPart sig wd) z G X0 = lx := ⟨_, rfl⟩
          have Hlx : Hid (lx.length = 32) := by show _ = _; rw [← hlx]; exact unhide HXl z
          obtain ⟨lp, hlp⟩ : ∃ lp, pathPart sig wd z = lp := ⟨_, rfl⟩
          have Hlp : Hid (lp.length = 32) := by show _ = _; rw [← hlp]; exact unhide Hpl z hlt
          rw [hlx] at HV Hcl
          rw [hlp] at Byp Hcl
          have Bz := hide ((unhide Byp).below (unhide HBz))
          have Hhd := hide (unhide Hhead wz (unhide HBz) r2 0x8383 (by omega) (by omega))
          by_cases hodd : r % 2 = 1
          · have q2 : (r : Int).tmod 2 = 1 := by rw [Int.tmod_eq_emod_of_nonneg (by omega)]; omega
            rw [if_pos hodd] at Hcl
            clear hlx hlp ha he byp hr2 hodd
            go_wp2_with fail
            refine (unhide Hhd).mono ?_
            rintro e w18 ⟨v18, rfl, hR⟩
            have HV18 := hide hR.bytes
            have HB18 := hide ((unhide HBz).trans (hR.b.mono (unhide HBz).size))
            have A18 := hide ((unhide Bz).below hR.b)
            have C18 := hide ((unhide HV).below hR.b)
            clear hR
            go_wp2_with fail
            refine (join_any w18 v18 _ (head id r2 0x8383) lp (unhide HV18) (unhide A18) (by rw [len_head, unhide Hid16, unhide Hlp]; omega)).mono ?_
            rintro e w19 ⟨v19, rfl, hR⟩
            have HR19 := hide hR
            have C19 := hide ((unhide C18).below hR.b)
            have Hl19 : Hid ((head id r2 0x8383 ++ lp).length + lx.length ≤ 1073741824) := by show _ ≤ _; rw [List.length_append, len_head, unhide Hid16, unhide Hlp, unhide Hlx]; omega
            clear hR
            go_wp2_with (at_builtin; refine wpList_append_row rfl _ _ rfl v19 _ (head id r2 0x8383 ++ lp) lx rfl (unhide HR19) rfl (unhide C19) (unhide Hl19) ?_
                         intro v20 w20 hR4
                         have HR20 := hide hR4
                         clear hR4)
            refine ((unhide HC).sum w20 v20 _ (unhide HR20).bytes (by rw [List.length_append, List.length_append, len_head, unhide Hid16, unhide Hlp, unhide Hlx]; omega)).mono ?_
            rintro e w21 ⟨v21, rfl, hR⟩
            have HV21 : Hid (BytesAt w21 v21 (climb H id (pathPart sig wd) (z + 1) G X0)) := by show BytesAt _ _ _; rw [unhide Hcl, ← List.append_assoc]; exact hR.bytes
            have HB21 : Hid (Below w0.heap.size w0 w21) := by
              show Below _ _ _
              have h1 := (unhide HB18).trans ((unhide HR20).b.mono (unhide HB18).size)
              exact h1.trans (hR.b.mono h1.size)
            clear hR HR20 HR19 C19 C18 A18 HV18 HB18 HV Hcl Hhd Bz Hr
            go_wp2
            go_roundw
            case rel =>
              first
                | exact ⟨z + 1, r2, by omega, by go_num, rfl, hr2b, Hr2, HV21, HB21⟩
                | ((repeat apply Exists.intro); exact ⟨⟨z + 1, r2, by omega, by go_num, rfl, hr2b, Hr2, HV21, HB21⟩, rfl⟩)
            case measure => simp [intOf]; omega
          · have q2 : (r : Int).tmod 2 = 0 := by rw [Int.tmod_eq_emod_of_nonneg (by omega)]; omega
            rw [if_neg hodd] at Hcl
            clear hlx hlp ha he byp hr2 hodd
            go_wp2_with fail
            refine (unhide Hhd).mono ?_
            rintro e w18 ⟨v18, rfl, hR⟩
            have HV18 := hide hR.bytes
            have HB18 := hide ((unhide HBz).trans (hR.b.mono (unhide HBz).size))
            have A18 := hide ((unhide Bz).below hR.b)
            have C18 := hide ((unhide HV).below hR.b)
            clear hR
            go_wp2_with fail
            refine (join_any w18 v18 _ (head id r2 0x8383) lx (unhide HV18) (unhide C18) (by rw [len_head, unhide Hid16, unhide Hlx]; omega)).mono ?_
            rintro e w19 ⟨v19, rfl, hR⟩
            have HR19 := hide hR
            have C19 := hide ((unhide A18).below hR.b)
            have Hl19 : Hid ((head id r2 0x8383 ++ lx).length + lp.length ≤ 1073741824) := by show _ ≤ _; rw [List.length_append, len_head, unhide Hid16, unhide Hlp, unhide Hlx]; omega
            clear hR
            go_wp2_with (at_builtin; refine wpList_append_row rfl _ _ rfl v19 _ (head id r2 0x8383 ++ lx) lp rfl (unhide HR19) rfl (unhide C19) (unhide Hl19) ?_
                         intro v20 w20 hR4
                         have HR20 := hide hR4
                         clear hR4)
            refine ((unhide HC).sum w20 v20 _ (unhide HR20).bytes (by rw [List.length_append, List.length_append, len_head, unhide Hid16, unhide Hlp, unhide Hlx]; omega)).mono ?_
            rintro e w21 ⟨v21, rfl, hR⟩
            have HV21 : Hid (BytesAt w21 v21 (climb H id (pathPart sig wd) (z + 1) G X0)) := by show BytesAt _ _ _; rw [unhide Hcl, ← List.append_assoc]; exact hR.bytes
            have HB21 : Hid (Below w0.heap.size w0 w21) := by
              show Below _ _ _
              have h1 := (unhide HB18).trans ((unhide HR20).b.mono (unhide HB18).size)
              exact h1.trans (hR.b.mono h1.size)
            clear hR HR20 HR19 C19 C18 A18 HV18 HB18 HV Hcl Hhd Bz Hr
            go_wp2
            go_roundw
            case rel =>
              first
                | exact ⟨z + 1, r2, by omega, by go_num, rfl, hr2b, Hr2, HV21, HB21⟩
                | ((repeat apply Exists.intro); exact ⟨⟨z + 1, r2, by omega, by go_num, rfl, hr2b, Hr2, HV21, HB21⟩, rfl⟩)
            case measure => simp [intOf]; omega
        · obtain rfl : z = h := by omega
          have dz : decide ((z : Int) < (z : Int)) = false := by simp
          have HXe : Hid (climb H id (pathPart sig wd) z G X0 = XF) := unhide HXF
          rw [unhide HXe] at HV
          have HXL : Hid (XF.length = 32) := by show _ = _; rw [← unhide HXe]; exact unhide HXl z
          have Hsame := hide (same_any wz u22 yr XF (part pk 24 32) (unhide HV) ((unhide Br).below (unhide HBz)) (by rw [unhide HXL]; omega))
          clear HV Hr
          go_wp2_with fail
          refine (unhide Hsame).mono ?_
          rintro e w18 ⟨rfl, hb⟩
          have HB18 := hide ((unhide HBz).trans (hb.mono (unhide HBz).size))
          clear hb
          go_wp2
          go_ret
          exact ⟨by rw [unhide HF2]; rfl, unhide HB18⟩
end Go.Proofs.YtlhjifdahagkaaaDoor
