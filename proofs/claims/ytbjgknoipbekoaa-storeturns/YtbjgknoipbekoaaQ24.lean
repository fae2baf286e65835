/-
  The walk of Same: whether two slices hold the same bytes.
  StoreOwn out of the records.
-/
import Derived.Test.YtbjgknoipbekoaaQ0
import Derived.Test.YtbjgknoipbekoaaQ23
namespace Go.Proofs.Ytbjgknoipbekoaa
open Go.RowKit
theorem take_eq_succ {a b : Bs} {k : Nat} (h : a.take k = b.take k) (ha : k < a.length) (hb : k < b.length) (he : (a.getD k 0).toNat = (b.getD k 0).toNat) : a.take (k + 1) = b.take (k + 1) := by
  have e : a[k] = b[k] := by
    apply UInt8.toNat_inj.1
    simpa [List.getD_eq_getElem?_getD, ha, hb] using he
  rw [List.take_add_one, List.take_add_one, h, List.getElem?_eq_getElem ha, List.getElem?_eq_getElem hb, e]
set_option maxRecDepth 100000 in
set_option maxHeartbeats 1000000 in
theorem same_any (w : World) (x y : Value) (a b : Bs) (hx : BytesAt w x a) (hy : BytesAt w y b) (hl : a.length ≤ 1099511627776) :
    Calls Try.prog 10 #[x, y] w fun e w' => e = .returned (.bool (decide (a = b))) ∧ Below w.heap.size w w' := by
  obtain ⟨sp, c, rfl, _, _, hc⟩ := bytes_open hx
  obtain ⟨sp2, c2, rfl, _, _, hc2⟩ := bytes_open hy
  have H1 := hide hc
  have H2 := hide hc2
  clear hc hc2 hx hy
  go_enter Try.func10, Try.ntmps10
  by_cases hab : a.length = b.length
  · obtain ⟨N, hN⟩ : ∃ N, a.length = N := ⟨_, rfl⟩
    have hN2 : b.length = N := by omega
    have hNb : N ≤ 1099511627776 := by rw [← hN]; exact hl
    rw [hN] at H1
    rw [hN2] at H2
    rw [hN, hN2]
    have HN := hide hN
    have HN2 := hide hN2
    clear hN hN2 hab
    go_wp2
    go_loopw [5] (fun i wr => ∃ k : Nat, k ≤ N ∧ i = .int .i64 k ∧ wr.heap = w.heap ∧ Hid (a.take k = b.take k) ∧ Below w.heap.size w wr) (fun i _ => N - (intOf i).toNat)
    case atStart => exact ⟨0, by omega, rfl, rfl, rfl, Below.refl _ _⟩
    case round =>
      obtain ⟨k, hk, rfl, hh, HE, hB⟩ := hrel
      by_cases hlt : k < N
      · have hna : a ≠ [] := by intro e; have := unhide HN; rw [e] at this; simp at this; omega
        have hnb : b ≠ [] := by intro e; have := unhide HN2; rw [e] at this; simp at this; omega
        obtain ⟨ba, oa, rfl, _, hcell⟩ := unhide H1 hna
        obtain ⟨bb, ob, rfl, _, hcell2⟩ := unhide H2 hnb
        have c1 : wr.cell? ⟨ba, oa + k, none⟩ = some (.int .u8 ((a.getD k 0).toNat : Int)) := by rw [← hcell k hlt]; unfold World.cell?; rw [hh]
        have c2' : wr.cell? ⟨bb, ob + k, none⟩ = some (.int .u8 ((b.getD k 0).toNat : Int)) := by rw [← hcell2 k hlt]; unfold World.cell?; rw [hh]
        have Ht : Hid ((a.getD k 0).toNat = (b.getD k 0).toNat → a.take (k + 1) = b.take (k + 1)) := fun e => take_eq_succ (unhide HE) (by have := unhide HN; omega) (by have := unhide HN2; omega) e
        have Hf : Hid ((a.getD k 0).toNat ≠ (b.getD k 0).toNat → a ≠ b) := fun e e2 => e (by rw [e2])
        obtain ⟨p, hp⟩ : ∃ p, (a.getD k 0).toNat = p := ⟨_, rfl⟩
        obtain ⟨q, hq⟩ : ∃ q, (b.getD k 0).toNat = q := ⟨_, rfl⟩
        rw [hp] at c1 Ht Hf
        rw [hq] at c2' Ht Hf
        have HB := hide hB
        have Hh := hide hh
        clear hB hh hcell hcell2 hp hq hna hnb
        have k0 : (0 : Int) ≤ (k : Int) := by omega
        have k1 : (k : Int) < (N : Int) := by omega
        by_cases hpq : p = q
        · have Ht2 := hide (unhide Ht hpq)
          have de : ((p : Int) == (q : Int)) = true := by simp [hpq]
          subst hpq
          clear Ht Hf
          go_wp2
          go_region_held3 (fun w' => w'.cell? ⟨ba, oa + k, none⟩ = some (.int .u8 p) ∧ w'.cell? ⟨bb, ob + k, none⟩ = some (.int .u8 p)) (go_keep) (fail)
          go_wp2
          go_roundw
          case rel =>
            first
              | exact ⟨k + 1, by omega, by go_num, unhide Hh, Ht2, (unhide HB).drew⟩
              | ((repeat apply Exists.intro); exact ⟨⟨k + 1, by omega, by go_num, unhide Hh, Ht2, (unhide HB).drew⟩, rfl⟩)
          case measure => simp [intOf]; omega
        · have Hf2 := hide (unhide Hf hpq)
          have de : ((p : Int) == (q : Int)) = false := by simp; omega
          clear Ht Hf hpq
          go_wp2
          go_region_held3 (fun w' => w'.cell? ⟨ba, oa + k, none⟩ = some (.int .u8 p) ∧ w'.cell? ⟨bb, ob + k, none⟩ = some (.int .u8 q)) (go_keep) (fail)
          go_wp2
          go_ret
          exact ⟨by simp [unhide Hf2], (unhide HB).drew⟩
      · have Hf : Hid (a = b) := by
          show _ = _
          have h1 := unhide HE
          rwa [List.take_of_length_le (by have := unhide HN; omega), List.take_of_length_le (by have := unhide HN2; omega)] at h1
        go_wp2
        go_ret
        exact ⟨by simp [unhide Hf], hB⟩
  · have Hf : Hid (a ≠ b) := fun e => hab (by rw [e])
    have de : ((a.length : Int) == (b.length : Int)) = false := by simp; omega
    go_wp2
    go_ret
    exact ⟨by simp [unhide Hf], Below.refl _ _⟩
end Go.Proofs.Ytbjgknoipbekoaa
namespace Go.Proofs.Ytbjgknoipbekoaa
open Go.RowKit
theorem xor_u8s (x : UInt8) : ∃ y : UInt8, bits .xor .u8 (x.toNat : Int) 255 = (y.toNat : Int) := by
  have hx : x.toNat ^^^ 255 < 256 := Nat.xor_lt_two_pow (n := 8) (by have := x.toNat_lt; omega) (by omega)
  refine ⟨UInt8.ofNat (x.toNat ^^^ 255), ?_⟩
  have h := u8_xor_nat x.toNat 255 (by have := x.toNat_lt; omega) (by omega)
  rw [UInt8.toNat_ofNat', Nat.mod_eq_of_lt hx]
  exact h
theorem bytes_pokes {w : World} {g o n c : Nat} {l : Bs} (h : BytesAt w (.slice (some ⟨g, o, none⟩) n c) l) (i : Nat) (hi : i < l.length) (y : UInt8) : BytesAt (w.setCell ⟨g, o + i, none⟩ (.int .u8 (y.toNat : Int))) (.slice (some ⟨g, o, none⟩) n c) (l.set i y) := by
  obtain ⟨sp, c', e, h1, h2, h3⟩ := h
  simp only [Value.slice.injEq] at e
  obtain ⟨rfl, hn, rfl⟩ := e
  refine ⟨some ⟨g, o, none⟩, c, by rw [hn]; simp, by simpa using h1, h2, fun _ => ⟨g, o, rfl, fun j v hv => ?_⟩⟩
  have hne : l.map bv ≠ [] := by intro e; have := congrArg List.length e; simp at this; subst this; simp at hi
  obtain ⟨b, o', e, hr⟩ := h3 hne
  simp only [Option.some.injEq, Addr.mk.injEq, and_true] at e
  obtain ⟨rfl, rfl⟩ := e
  rw [List.map_set, List.getElem?_set] at hv
  by_cases hij : i = j
  · subst hij
    rw [if_pos rfl, if_pos (by simpa using hi)] at hv
    have h0 := hr i (bv (l[i])) (by simp [hi])
    rw [World.cell?_setCell_same _ _ _ h0]
    exact hv
  · rw [if_neg hij] at hv
    rw [World.cell?_setCell_other _ _ _ _ (by intro e; simp only [Addr.mk.injEq, true_and, and_true] at e; omega)]
    exact hr j v hv
/-- n bytes, whatever they are, that may be written over. -/
def Fl (w : World) (v : Value) (n : Nat) : Prop := ∃ m : Bs, m.length = n ∧ BytesAt w v m ∧ FreeAt w v n
theorem Fl.aside {S : Set_} {a b : World} {v : Value} {n : Nat} (h : Fl a v n) (hb : Aside S a b) (hv : ∀ k, v.ownBlock = some k → ¬ S k) : Fl b v n := by
  obtain ⟨m, h1, h2, h3⟩ := h
  refine ⟨m, h1, h2.aside hb hv, fun g o c q e j hj => ?_⟩
  have hne : m ≠ [] := by intro e; rw [e] at h1; simp at h1; omega
  have hk : v.ownBlock = some g := by rw [e]; rfl
  rw [World.frozen?_of_block (hb.block g (ValsAt.old h2 (by simpa using hne) g hk) (hv g hk))]
  exact h3 g o c q e j hj
theorem Fl.of {w : World} {B : Nat} {v : Value} {l : Bs} (h : OwnB w B v l) : Fl w v l.length := ⟨l, rfl, h.bytes, free_own h⟩
/-- One byte is written over. -/
theorem Fl.poke {w : World} {sp : Option Addr} {n c i : Nat} (h : Fl w (.slice sp n c) n) (hi : i < n) : ∃ (g o : Nat) (x y : UInt8), sp = some ⟨g, o, none⟩ ∧ w.cell? ⟨g, o + i, none⟩ = some (.int .u8 (x.toNat : Int)) ∧ w.frozen? ⟨g, o + i, none⟩ = false ∧ bits .xor .u8 (x.toNat : Int) 255 = (y.toNat : Int) ∧ Fl (w.setCell ⟨g, o + i, none⟩ (.int .u8 (y.toNat : Int))) (.slice sp n c) n ∧ Aside (fun k => (Value.slice sp n c).ownBlock = some k) w (w.setCell ⟨g, o + i, none⟩ (.int .u8 (y.toNat : Int))) := by
  obtain ⟨m, h1, h2, h3⟩ := h
  have hne : m ≠ [] := by intro e; rw [e] at h1; simp at h1; omega
  obtain ⟨sp', c', e, _, _, hc⟩ := bytes_open h2
  simp only [Value.slice.injEq] at e
  obtain ⟨rfl, _, _⟩ := e
  obtain ⟨g, o, rfl, _, hcell⟩ := hc hne
  obtain ⟨y, hy⟩ := xor_u8s (m.getD i 0)
  refine ⟨g, o, m.getD i 0, y, rfl, hcell i (by omega), h3 g o c n rfl i hi, hy, ⟨m.set i y, by rw [List.length_set]; exact h1, bytes_pokes h2 i (by omega) y, fun g' o' c'' q e j hj => ?_⟩, Aside.of_grown (setCell_grown g (o + i) _) fun k e => by simpa [Value.ownBlock] using e⟩
  simp only [Value.slice.injEq, Option.some.injEq, Addr.mk.injEq, and_true] at e
  obtain ⟨⟨rfl, rfl⟩, rfl, rfl⟩ := e
  rw [World.frozen?_setCell]
  exact h3 _ _ _ _ rfl j hj
/-- One change in a block that was just laid. -/
theorem chs_single {B : Nat} {w : World} {c0 : Ch} {k0 v0 : Value} (h0 : ChV B w c0 k0 v0) (hB : B ≤ w.heap.size) : ChsAt (fun k => B ≤ k) (w.alloc (.cells #[k0, v0, .bool c0.gone] 32)) (.slice (some ⟨w.heap.size, 0, none⟩) 1 1) [c0] := by
  obtain ⟨W, hW⟩ : ∃ y, w.alloc (.cells #[k0, v0, .bool c0.gone] 32) = y := ⟨_, rfl⟩
  have hb : Below w.heap.size w W := by rw [← hW]; exact (Below.refl _ _).alloc (Nat.le_refl _) _
  have hs : S3 W w.heap.size k0 v0 (.bool c0.gone) := by rw [← hW]; exact S3.new w _ _ _
  rw [hW]
  have hl : w.heap.size < W.heap.size := World.block_lt_of_cell? _ _ hs.c0
  refine ⟨⟨_, 1, rfl, Nat.le_refl 1, fun e => (by cases e)⟩, fun i c hi => ?_⟩
  rcases i with _ | i
  · simp only [List.getElem?_cons_zero, Option.some.injEq] at hi
    subst hi
    exact ⟨_, 0, _, _, rfl, hB, hl, k0, v0, ⟨hs.c0, hs.c1, hs.c2, ⟨(h0.below hb).key, h0.kb⟩, ⟨(h0.below hb).val, h0.vb⟩⟩⟩
  · simp at hi
theorem with_single (k v : Bs) : withP [] [⟨k, v, false⟩] = [(k, v)] := rfl
theorem get_single (k v : Bs) : getP [(k, v)] k = some v := by unfold getP; rw [if_pos rfl]
theorem keys_single (k v : Bs) : keysP [(k, v)] [] = [k] := rfl
end Go.Proofs.Ytbjgknoipbekoaa
