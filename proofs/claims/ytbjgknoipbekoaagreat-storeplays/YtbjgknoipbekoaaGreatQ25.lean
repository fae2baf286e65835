/-
  The walk of Same: whether two slices hold the same bytes.
  StoreOwn out of the records.
  StoreTurns: plain words, and a store that stays beside another one on the same plate.
  Two plates and their stores, side by side; StoreAsOne's plain words.
  StoreAsOne's plain words; one change of the list in a block that was just laid.
  Plain words on stores (layer 15): how many writes are loose at most; lives of a store, one after the other, beside the pairs that must be there.
-/
import Derived.Test.YtbjgknoipbekoaaGreatQ0
import Derived.Test.YtbjgknoipbekoaaGreatQ24
import Derived.Test.YtbjgknoipbekoaaGreatQ23
import Derived.Test.YtbjgknoipbekoaaGreatQ18
namespace Go.Proofs.YtbjgknoipbekoaaGreat
open Go.RowKit
theorem take_eq_succ {a b : Bs} {k : Nat} (h : a.take k = b.take k) (ha : k < a.length) (hb : k < b.length) (he : (a.getD k 0).toNat = (b.getD k 0).toNat) : a.take (k + 1) = b.take (k + 1) := by
  have e : a[k] = b[k] := by
    apply UInt8.toNat_inj.1
    simpa [List.getD_eq_getElem?_getD, ha, hb] using he
  rw [List.take_add_one, List.take_add_one, h, List.getElem?_eq_getElem ha, List.getElem?_eq_getElem hb, e]
set_option maxRecDepth 100000 in
set_option maxHeartbeats 1000000 in
theorem same_any (w : World) (x y : Value) (a b : Bs) (hx : BytesAt w x a) (hy : BytesAt w y b) (hl : a.length ≤ 1099511627776) :
    Calls Tryz.prog 19 #[x, y] w fun e w' => e = .returned (.bool (decide (a = b))) ∧ Below w.heap.size w w' := by
  obtain ⟨sp, c, rfl, _, _, hc⟩ := bytes_open hx
  obtain ⟨sp2, c2, rfl, _, _, hc2⟩ := bytes_open hy
  have H1 := hide hc
  have H2 := hide hc2
  clear hc hc2 hx hy
  go_enter Tryz.func19, Tryz.ntmps19
  by_cases hab : a.length = b.length
  · obtain ⟨N, hN⟩ : ∃ N, a.length = N := ⟨_, rfl⟩
    have hN2 : b.length = N := by omega
    have hNb : N ≤ 1099511627776 := by rw [← hN]; exact hl
    rw [hN] at H1
    rw [hN2] at H2
    rw [hN, hN2]
    have HN := hide hN
    have HN2 := hide hN2
    clear hN hN2 hab
    go_wp2
    go_loopw [5] (fun i wr => ∃ k : Nat, k ≤ N ∧ i = .int .i64 k ∧ wr.heap = w.heap ∧ Hid (a.take k = b.take k) ∧ Below w.heap.size w wr) (fun i _ => N - (intOf i).toNat)
    case atStart => exact ⟨0, by omega, rfl, rfl, rfl, Below.refl _ _⟩
    case round =>
      obtain ⟨k, hk, rfl, hh, HE, hB⟩ := hrel
      by_cases hlt : k < N
      · have hna : a ≠ [] := by intro e; have := unhide HN; rw [e] at this; simp at this; omega
        have hnb : b ≠ [] := by intro e; have := unhide HN2; rw [e] at this; simp at this; omega
        obtain ⟨ba, oa, rfl, _, hcell⟩ := unhide H1 hna
        obtain ⟨bb, ob, rfl, _, hcell2⟩ := unhide H2 hnb
        have c1 : wr.cell? ⟨ba, oa + k, none⟩ = some (.int .u8 ((a.getD k 0).toNat : Int)) := by rw [← hcell k hlt]; unfold World.cell?; rw [hh]
        have c2' : wr.cell? ⟨bb, ob + k, none⟩ = some (.int .u8 ((b.getD k 0).toNat : Int)) := by rw [← hcell2 k hlt]; unfold World.cell?; rw [hh]
        have Ht : Hid ((a.getD k 0).toNat = (b.getD k 0).toNat → a.take (k + 1) = b.take (k + 1)) := fun e => take_eq_succ (unhide HE) (by have := unhide HN; omega) (by have := unhide HN2; omega) e
        have Hf : Hid ((a.getD k 0).toNat ≠ (b.getD k 0).toNat → a ≠ b) := fun e e2 => e (by rw [e2])
        obtain ⟨p, hp⟩ : ∃ p, (a.getD k 0).toNat = p := ⟨_, rfl⟩
        obtain ⟨q, hq⟩ : ∃ q, (b.getD k 0).toNat = q := ⟨_, rfl⟩
        rw [hp] at c1 Ht Hf
        rw [hq] at c2' Ht Hf
        have HB := hide hB
        have Hh := hide hh
        clear hB hh hcell hcell2 hp hq hna hnb
        have k0 : (0 : Int) ≤ (k : Int) := by omega
        have k1 : (k : Int) < (N : Int) := by omega
        by_cases hpq : p = q
        · have Ht2 := hide (unhide Ht hpq)
          have de : ((p : Int) == (q : Int)) = true := by simp [hpq]
          subst hpq
          clear Ht Hf
          go_wp2
          go_region_held3 (fun w' => w'.cell? ⟨ba, oa + k, none⟩ = some (.int .u8 p) ∧ w'.cell? ⟨bb, ob + k, none⟩ = some (.int .u8 p)) (go_keep) (fail)
          go_wp2
          go_roundw
          case rel =>
            first
              | exact ⟨k + 1, by omega, by go_num, unhide Hh, Ht2, (unhide HB).drew⟩
              | ((repeat apply Exists.intro); exact ⟨⟨k + 1, by omega, by go_num, unhide Hh, Ht2, (unhide HB).drew⟩, rfl⟩)
          case measure => simp [intOf]; omega
        · have Hf2 := hide (unhide Hf hpq)
          have de : ((p : Int) == (q : Int)) = false := by simp; omega
          clear Ht Hf hpq
          go_wp2
          go_region_held3 (fun w' => w'.cell? ⟨ba, oa + k, none⟩ = some (.int .u8 p) ∧ w'.cell? ⟨bb, ob + k, none⟩ = some (.int .u8 q)) (go_keep) (fail)
          go_wp2
          go_ret
          exact ⟨by simp [unhide Hf2], (unhide HB).drew⟩
      · have Hf : Hid (a = b) := by
          show _ = _
          have h1 := unhide HE
          rwa [List.take_of_length_le (by have := unhide HN; omega), List.take_of_length_le (by have := unhide HN2; omega)] at h1
        go_wp2
        go_ret
        exact ⟨by simp [unhide Hf], hB⟩
  · have Hf : Hid (a ≠ b) := fun e => hab (by rw [e])
    have de : ((a.length : Int) == (b.length : Int)) = false := by simp; omega
    go_wp2
    go_ret
    exact ⟨by simp [unhide Hf], Below.refl _ _⟩
end Go.Proofs.YtbjgknoipbekoaaGreat
namespace Go.Proofs.YtbjgknoipbekoaaGreat
open Go.RowKit
theorem xor_u8s (x : UInt8) : ∃ y : UInt8, bits .xor .u8 (x.toNat : Int) 255 = (y.toNat : Int) := by
  have hx : x.toNat ^^^ 255 < 256 := Nat.xor_lt_two_pow (n := 8) (by have := x.toNat_lt; omega) (by omega)
  refine ⟨UInt8.ofNat (x.toNat ^^^ 255), ?_⟩
  have h := u8_xor_nat x.toNat 255 (by have := x.toNat_lt; omega) (by omega)
  rw [UInt8.toNat_ofNat', Nat.mod_eq_of_lt hx]
  exact h
theorem bytes_pokes {w : World} {g o n c : Nat} {l : Bs} (h : BytesAt w (.slice (some ⟨g, o, none⟩) n c) l) (i : Nat) (hi : i < l.length) (y : UInt8) : BytesAt (w.setCell ⟨g, o + i, none⟩ (.int .u8 (y.toNat : Int))) (.slice (some ⟨g, o, none⟩) n c) (l.set i y) := by
  obtain ⟨sp, c', e, h1, h2, h3⟩ := h
  simp only [Value.slice.injEq] at e
  obtain ⟨rfl, hn, rfl⟩ := e
  refine ⟨some ⟨g, o, none⟩, c, by rw [hn]; simp, by simpa using h1, h2, fun _ => ⟨g, o, rfl, fun j v hv => ?_⟩⟩
  have hne : l.map bv ≠ [] := by intro e; have := congrArg List.length e; simp at this; subst this; simp at hi
  obtain ⟨b, o', e, hr⟩ := h3 hne
  simp only [Option.some.injEq, Addr.mk.injEq, and_true] at e
  obtain ⟨rfl, rfl⟩ := e
  rw [List.map_set, List.getElem?_set] at hv
  by_cases hij : i = j
  · subst hij
    rw [if_pos rfl, if_pos (by simpa using hi)] at hv
    have h0 := hr i (bv (l[i])) (by simp [hi])
    rw [World.cell?_setCell_same _ _ _ h0]
    exact hv
  · rw [if_neg hij] at hv
    rw [World.cell?_setCell_other _ _ _ _ (by intro e; simp only [Addr.mk.injEq, true_and, and_true] at e; omega)]
    exact hr j v hv
/-- n bytes, whatever they are, that may be written over. -/
def Fl (w : World) (v : Value) (n : Nat) : Prop := ∃ m : Bs, m.length = n ∧ BytesAt w v m ∧ FreeAt w v n
theorem Fl.aside {S : Set_} {a b : World} {v : Value} {n : Nat} (h : Fl a v n) (hb : Aside S a b) (hv : ∀ k, v.ownBlock = some k → ¬ S k) : Fl b v n := by
  obtain ⟨m, h1, h2, h3⟩ := h
  refine ⟨m, h1, h2.aside hb hv, fun g o c q e j hj => ?_⟩
  have hne : m ≠ [] := by intro e; rw [e] at h1; simp at h1; omega
  have hk : v.ownBlock = some g := by rw [e]; rfl
  rw [World.frozen?_of_block (hb.block g (ValsAt.old h2 (by simpa using hne) g hk) (hv g hk))]
  exact h3 g o c q e j hj
theorem Fl.of {w : World} {B : Nat} {v : Value} {l : Bs} (h : OwnB w B v l) : Fl w v l.length := ⟨l, rfl, h.bytes, free_own h⟩
/-- One byte is written over. -/
theorem Fl.poke {w : World} {sp : Option Addr} {n c i : Nat} (h : Fl w (.slice sp n c) n) (hi : i < n) : ∃ (g o : Nat) (x y : UInt8), sp = some ⟨g, o, none⟩ ∧ w.cell? ⟨g, o + i, none⟩ = some (.int .u8 (x.toNat : Int)) ∧ w.frozen? ⟨g, o + i, none⟩ = false ∧ bits .xor .u8 (x.toNat : Int) 255 = (y.toNat : Int) ∧ Fl (w.setCell ⟨g, o + i, none⟩ (.int .u8 (y.toNat : Int))) (.slice sp n c) n ∧ Aside (fun k => (Value.slice sp n c).ownBlock = some k) w (w.setCell ⟨g, o + i, none⟩ (.int .u8 (y.toNat : Int))) := by
  obtain ⟨m, h1, h2, h3⟩ := h
  have hne : m ≠ [] := by intro e; rw [e] at h1; simp at h1; omega
  obtain ⟨sp', c', e, _, _, hc⟩ := bytes_open h2
  simp only [Value.slice.injEq] at e
  obtain ⟨rfl, _, _⟩ := e
  obtain ⟨g, o, rfl, _, hcell⟩ := hc hne
  obtain ⟨y, hy⟩ := xor_u8s (m.getD i 0)
  refine ⟨g, o, m.getD i 0, y, rfl, hcell i (by omega), h3 g o c n rfl i hi, hy, ⟨m.set i y, by rw [List.length_set]; exact h1, bytes_pokes h2 i (by omega) y, fun g' o' c'' q e j hj => ?_⟩, Aside.of_grown (setCell_grown g (o + i) _) fun k e => by simpa [Value.ownBlock] using e⟩
  simp only [Value.slice.injEq, Option.some.injEq, Addr.mk.injEq, and_true] at e
  obtain ⟨⟨rfl, rfl⟩, rfl, rfl⟩ := e
  rw [World.frozen?_setCell]
  exact h3 _ _ _ _ rfl j hj
/-- One change in a block that was just laid. -/
theorem chs_single {B : Nat} {w : World} {c0 : Ch} {k0 v0 : Value} (h0 : ChV B w c0 k0 v0) (hB : B ≤ w.heap.size) : ChsAt (fun k => B ≤ k) (w.alloc (.cells #[k0, v0, .bool c0.gone] 72)) (.slice (some ⟨w.heap.size, 0, none⟩) 1 1) [c0] := by
  obtain ⟨W, hW⟩ : ∃ y, w.alloc (.cells #[k0, v0, .bool c0.gone] 72) = y := ⟨_, rfl⟩
  have hb : Below w.heap.size w W := by rw [← hW]; exact (Below.refl _ _).alloc (Nat.le_refl _) _
  have hs : S3 W w.heap.size k0 v0 (.bool c0.gone) := by rw [← hW]; exact S3.new w _ _ _
  rw [hW]
  have hl : w.heap.size < W.heap.size := World.block_lt_of_cell? _ _ hs.c0
  refine ⟨⟨_, 1, rfl, Nat.le_refl 1, fun e => (by cases e)⟩, fun i c hi => ?_⟩
  rcases i with _ | i
  · simp only [List.getElem?_cons_zero, Option.some.injEq] at hi
    subst hi
    exact ⟨_, 0, _, _, rfl, hB, hl, k0, v0, ⟨hs.c0, hs.c1, hs.c2, ⟨(h0.below hb).key, h0.kb⟩, ⟨(h0.below hb).val, h0.vb⟩⟩⟩
  · simp at hi
theorem with_single (k v : Bs) : withP [] [⟨k, v, false⟩] = [(k, v)] := rfl
theorem get_single (k v : Bs) : getP [(k, v)] k = some v := by unfold getP; rw [if_pos rfl]
theorem keys_single (k v : Bs) : keysP [(k, v)] [] = [k] := rfl
end Go.Proofs.YtbjgknoipbekoaaGreat
namespace Go.Proofs.YtbjgknoipbekoaaGreat
open Go.RowKit
/-- What the reference answers in one round of StoreTurns. -/
theorem turn_ref {r : RS} {v : Bs} (hv : v.length ≤ 40) (hp : r.pairs = [] ∨ ∃ u, r.pairs = [([107], u)]) (hh : 2 ≤ r.half) :
    (refC r [⟨[107], v, false⟩]).2 = 0 ∧ (refC r [⟨[107], v, false⟩]).1.pairs = [([107], v)] ∧ (refC r [⟨[107], v, false⟩]).1.half = r.half ∧ r.gen ≤ (refC r [⟨[107], v, false⟩]).1.gen ∧ (refC r [⟨[107], v, false⟩]).1.gen ≤ r.gen + 1 := by
  have hR : RightL [⟨[107], v, false⟩] := fun c hc => by
    rw [List.mem_singleton] at hc
    subst hc
    exact ⟨Nat.le_refl 1, (by decide : (1 : Nat) ≤ 32), fun _ => by show v.length ≤ 8192; omega⟩
  have hw : withP r.pairs [⟨[107], v, false⟩] = [([107], v)] := by
    rcases hp with e | ⟨u, e⟩
    · rw [e]; rfl
    · rw [e]; show insP _ false [([107], u)] = _; simp [insP, less_irrefl]
  have hl1 : (wrL [⟨[107], v, false⟩]).length ≤ 47 := by
    rw [wrL_cons, List.length_append, size_set _ rfl]
    show 6 + 1 + v.length + (wrL []).length ≤ _
    simp [wrL]
    omega
  have hl2 : (wrL (allP [([107], v)])).length ≤ 47 := hl1
  have hn2 : needs (wrL (allP [([107], v)])).length ≤ 2 := by unfold needs; omega
  unfold refC
  rw [if_neg (fun h => h hR), if_neg (by simp), hw]
  split
  · exact ⟨rfl, rfl, rfl, Nat.le_refl _, Nat.le_succ _⟩
  · rw [if_neg (by omega)]
    exact ⟨rfl, rfl, rfl, Nat.le_succ _, Nat.le_refl _⟩
section
variable {PAt : Set_ → Set_ → World → Value → PS → Prop} {SAt : Set_ → Set_ → World → Value → Value → SS → Prop} (HP : Plate PAt) (HS : Store PAt SAt)
include HS in
/-- A second store is opened on the plate; nothing is written: both stand. -/
theorem Stg.second {w0 w : World} {p t : Value} {S R S2 R2 : Set_} {s : PS} {G : SS} (h : Stg PAt SAt w0 w p t S R S2 R2 s G) {hf T : Nat} {ps : List (Bs × Bs)} (H : AtRest hf T s ps) (hT : T + 1 < 4294967296) (hh : hf = (s.safe.length - 2) / 2) {G' : SS} (he : openS s hf = (0, some G', s)) :
    Calls Tryz.prog 10 #[p] w fun e w' => ∃ a, e = .returned (.tuple #[.pointer (some a), .int .i64 0]) ∧ ∃ S' R' S3 R3, Stg PAt SAt w0 w' p t S' R' S2 R2 s G ∧ Stg PAt SAt w0 w' p (.pointer (some a)) S' R' S3 R3 s G' ∧ Aside S w w' := by
  refine (HS.open_ hf T ps h.p H hT hh).mono ?_
  rw [he]
  rintro e w' ⟨v, rfl, S', R', S3, R3, q1, q2, q3, q4, q5, _, q7, q8, q9, q10⟩
  have hst := q5 G' rfl
  obtain ⟨a, rfl⟩ := HS.ptr hst
  have hs := h.b.size
  have h2 : Stg PAt SAt w0 w' p (.pointer (some a)) S' R' S3 R3 s G' := by
    refine ⟨hst, q1, q9, q10, fun k hk => ?_, fun k hk => ?_, h.b.trans (q4.below hs fun k hk => h.ge k (Or.inl hk))⟩
    · rcases hk with hk | hk
      · rcases q2 k hk with h3 | h3
        · exact h.ge k (Or.inl h3)
        · omega
      · rcases q3 k hk with h3 | h3
        · exact h.ge k (Or.inr h3)
        · omega
    · rcases hk with hk | hk
      · rcases q7 k hk with h3 | h3
        · exact h.ge k (Or.inl h3)
        · omega
      · have := q8 k hk; omega
  exact ⟨a, rfl, S', R', S3, R3, h.beside HS h2 q4 q2 q3, h2, q4⟩
end
/-- One byte is written over. -/
theorem Fl.put {w : World} {g n c i : Nat} (h : Fl w (.slice (some ⟨g, 0, none⟩) n c) n) (hi : i < n) (y : UInt8) : (∃ x : UInt8, w.cell? ⟨g, i, none⟩ = some (.int .u8 (x.toNat : Int))) ∧ w.frozen? ⟨g, i, none⟩ = false ∧ Fl (w.setCell ⟨g, i, none⟩ (.int .u8 (y.toNat : Int))) (.slice (some ⟨g, 0, none⟩) n c) n ∧ Aside (fun k => k = g) w (w.setCell ⟨g, i, none⟩ (.int .u8 (y.toNat : Int))) := by
  obtain ⟨m, h1, h2, h3⟩ := h
  have hne : m ≠ [] := by intro e; rw [e] at h1; simp at h1; omega
  obtain ⟨sp', c', e, _, _, hc⟩ := bytes_open h2
  simp only [Value.slice.injEq] at e
  obtain ⟨rfl, _, _⟩ := e
  obtain ⟨g', o', e, _, hcell⟩ := hc hne
  simp only [Option.some.injEq, Addr.mk.injEq, and_true] at e
  obtain ⟨rfl, rfl⟩ := e
  have hc0 := hcell i (by omega)
  have hf0 := h3 g 0 c n rfl i hi
  have hb0 := bytes_pokes h2 i (by omega) y
  simp only [Nat.zero_add] at hc0 hf0 hb0
  refine ⟨⟨_, hc0⟩, hf0, ⟨m.set i y, by rw [List.length_set]; exact h1, hb0, fun g' o' c'' q e j hj => ?_⟩, Aside.of_grown (setCell_grown g i _) fun k e => by simpa using e.symm⟩
  simp only [Value.slice.injEq, Option.some.injEq, Addr.mk.injEq, and_true] at e
  obtain ⟨⟨rfl, rfl⟩, rfl, rfl⟩ := e
  rw [World.frozen?_setCell]
  exact h3 _ _ _ _ rfl j hj
end Go.Proofs.YtbjgknoipbekoaaGreat
namespace Go.Proofs.YtbjgknoipbekoaaGreat
open Go.RowKit
/-- A store beside the reference's on a plate of n sectors; all their blocks are in B, and were made behind w0. -/
def SysAt (PAt : Set_ → Set_ → World → Value → PS → Prop) (SAt : Set_ → Set_ → World → Value → Value → SS → Prop) (n : Nat) (w0 w : World) (p t : Value) (r : RS) (k : Nat) (B : Set_) : Prop :=
  ∃ (T : Nat) (s : PS) (G : SS) (S R S2 R2 : Set_), Stg PAt SAt w0 w p t S R S2 R2 s G ∧ Beside T s G r ∧ T ≤ k ∧ s.safe.length = n ∧ G.half = (n - 2) / 2 ∧ (∀ j, (S j ∨ R j) ∨ S2 j ∨ R2 j → B j) ∧ ∀ j, B j → w0.heap.size ≤ j ∧ j < w.heap.size
/-- Two of them. -/
def TwoAt (PAt : Set_ → Set_ → World → Value → PS → Prop) (SAt : Set_ → Set_ → World → Value → Value → SS → Prop) (n : Nat) (w0 w : World) (p t q u : Value) (r r2 : RS) (k k2 : Nat) : Prop :=
  ∃ A B : Set_, SysAt PAt SAt n w0 w p t r k A ∧ SysAt PAt SAt n w0 w q u r2 k2 B ∧ ∀ j, A j → ¬ B j
theorem ref_half (r : RS) (l : List Ch) : (refC r l).1.half = r.half := by
  unfold refC
  split
  · rfl
  · split
    · rfl
    · split
      · rfl
      · split <;> rfl
section
variable {PAt : Set_ → Set_ → World → Value → PS → Prop} {SAt : Set_ → Set_ → World → Value → Value → SS → Prop} (HP : Plate PAt) (HS : Store PAt SAt)
variable {n k k2 : Nat} {w0 w w' : World} {p t q u : Value} {r r2 : RS} {A B : Set_}
include HP HS in
theorem SysAt.below (h : SysAt PAt SAt n w0 w p t r k B) (hb : Below w.heap.size w w') : SysAt PAt SAt n w0 w' p t r k B := by
  obtain ⟨T, s, G, S, R, S2, R2, h1, h2, h3, h4, h5, h6, h7⟩ := h
  exact ⟨T, s, G, S, R, S2, R2, h1.below HP HS hb, h2, h3, h4, h5, h6, fun j hj => ⟨(h7 j hj).1, Nat.lt_of_lt_of_le (h7 j hj).2 hb.size⟩⟩
include HP HS in
theorem SysAt.aside (h : SysAt PAt SAt n w0 w p t r k B) {T : Set_} (ha : Aside T w w') (hT : ∀ j, T j → ¬ B j) (hg : ∀ j, T j → w0.heap.size ≤ j) : SysAt PAt SAt n w0 w' p t r k B := by
  obtain ⟨T, s, G, S, R, S2, R2, h1, h2, h3, h4, h5, h6, h7⟩ := h
  exact ⟨T, s, G, S, R, S2, R2, h1.kept HP HS ha (fun j hj => ⟨⟨fun h => hT j hj (h6 j (Or.inl (Or.inl h))), fun h => hT j hj (h6 j (Or.inl (Or.inr h)))⟩, fun h => hT j hj (h6 j (Or.inr (Or.inl h))), fun h => hT j hj (h6 j (Or.inr (Or.inr h)))⟩) hg, h2, h3, h4, h5, h6, fun j hj => ⟨(h7 j hj).1, Nat.lt_of_lt_of_le (h7 j hj).2 ha.size⟩⟩
theorem SysAt.b (h : SysAt PAt SAt n w0 w p t r k B) : Below w0.heap.size w0 w := by
  obtain ⟨T, s, G, S, R, S2, R2, h1, _⟩ := h
  exact h1.b
theorem TwoAt.b (h : TwoAt PAt SAt n w0 w p t q u r r2 k k2) : Below w0.heap.size w0 w := by
  obtain ⟨A, B, h1, _⟩ := h
  exact h1.b
theorem TwoAt.swap (h : TwoAt PAt SAt n w0 w p t q u r r2 k k2) : TwoAt PAt SAt n w0 w q u p t r2 r k2 k := by
  obtain ⟨A, B, h1, h2, h3⟩ := h
  exact ⟨B, A, h2, h1, fun j hb ha => h3 j ha hb⟩
include HP HS in
theorem TwoAt.below (h : TwoAt PAt SAt n w0 w p t q u r r2 k k2) (hb : Below w.heap.size w w') : TwoAt PAt SAt n w0 w' p t q u r r2 k k2 := by
  obtain ⟨A, B, h1, h2, h3⟩ := h
  exact ⟨A, B, h1.below HP HS hb, h2.below HP HS hb, h3⟩
include HP HS in
/-- A Commit of one of them, of changes that lie in blocks of K. -/
theorem SysAt.commit {K : Set_} {x : Value} {l : List Ch} (h : SysAt PAt SAt n w0 w p t r k B) (hx : ChsAt K w x l) (hK : ∀ j, K j → ¬ B j) (hl : l.length ≤ 1000) (hk : k + 1 < 4294967296) (hg : r.gen < 2147483647) :
    Calls Tryz.prog 14 #[t, x] w fun e w' => e = .returned (.int .i64 (refC r l).2) ∧ SysAt PAt SAt n w0 w' p t (refC r l).1 (k + 1) (fun j => (B j ∨ w.heap.size ≤ j) ∧ j < w'.heap.size) ∧ Aside B w w' := by
  obtain ⟨T, s, G, S, R, S2, R2, h1, h2, h3, h4, h5, h6, h7⟩ := h
  obtain ⟨hc1, hB2⟩ := h2.commit (by omega) (by rw [← h2.gen]; exact hg) l
  have hlen := commit_len G s l
  refine (h1.commit HS hx (fun j hj => ⟨fun h => hK j hj (h6 j (Or.inl (Or.inl h))), fun h => hK j hj (h6 j (Or.inr (Or.inl h)))⟩) hl (by rw [h4]; exact h5) fun _ => ⟨h2.live, by omega⟩).mono ?_
  rintro e w' ⟨rfl, ⟨S', R', S2', R2', g3, g4⟩, g5⟩
  have hs := g5.size
  have h0 := h1.b.size
  have hge : ∀ j, (S' j ∨ R' j) ∨ S2' j ∨ R2' j → j < w'.heap.size := fun j hj => hj.elim (HP.old g3.p j) (HS.old g3.st j)
  rw [hc1]
  refine ⟨rfl, ⟨T + 1, _, _, S', R', S2', R2', g3, hB2, by omega, by rw [hlen]; exact h4, ?_, fun j hj => ⟨?_, hge j hj⟩, fun j hj => ⟨?_, hj.2⟩⟩, g5.mono fun j _ hj => h6 j (hj.elim (fun h => Or.inl (Or.inl h)) fun h => Or.inr (Or.inl h))⟩
  · rw [← hB2.half, ref_half, h2.half]; exact h5
  · exact (g4 j hj).elim (fun h => Or.inl (h6 j h)) Or.inr
  · rcases hj.1 with h | h
    · exact (h7 j h).1
    · omega
theorem SysAt.gen0 (h : SysAt PAt SAt n w0 w p t r k B) : ∀ j, B j → w0.heap.size ≤ j ∧ j < w.heap.size := by
  obtain ⟨T, s, G, S, R, S2, R2, h1, h2, h3, h4, h5, h6, h7⟩ := h
  exact h7
include HP HS in
/-- A Commit of the first of two. -/
theorem TwoAt.commit {K : Set_} {x : Value} {l : List Ch} (h : TwoAt PAt SAt n w0 w p t q u r r2 k k2) (hx : ChsAt K w' x l) (hb : Below w.heap.size w w') (hK : ∀ j, K j → j < w0.heap.size ∨ w.heap.size ≤ j) (hl : l.length ≤ 1000) (hk : k + 1 < 4294967296) (hg : r.gen < 2147483647) :
    Calls Tryz.prog 14 #[t, x] w' fun e w2 => e = .returned (.int .i64 (refC r l).2) ∧ TwoAt PAt SAt n w0 w2 p t q u (refC r l).1 r2 (k + 1) k2 ∧ Aside (fun j => w0.heap.size ≤ j ∧ j < w.heap.size) w' w2 := by
  obtain ⟨A, B, h1, h2, h3⟩ := h
  have hA := h1.gen0
  have hB := h2.gen0
  have hs := hb.size
  refine ((h1.below HP HS hb).commit HP HS hx (fun j hj ha => ?_) hl hk hg).mono ?_
  · have := hA j ha
    rcases hK j hj with h | h <;> omega
  · rintro e w2 ⟨rfl, g1, g2⟩
    refine ⟨rfl, ⟨_, B, g1, (h2.below HP HS hb).aside HP HS g2 (fun j hj => h3 j hj) (fun j hj => (hA j hj).1), fun j hj hb2 => ?_⟩, g2.mono fun j _ hj => hA j hj⟩
    rcases hj.1 with h | h
    · exact h3 j h hb2
    · have := hB j hb2; omega
include HS in
theorem SysAt.get (h : SysAt PAt SAt n w0 w p t r k B) {x : Value} {key : Bs} (hx : BytesAt w x key) (hl : key.length ≤ 1000000) : Calls Tryz.prog 15 #[t, x] w fun e w' => ∃ v, e = .returned (.tuple #[v, .bool (getP r.pairs key).isSome]) ∧ OwnB w' w.heap.size v ((getP r.pairs key).getD []) ∧ Below w.heap.size w w' := by
  obtain ⟨T, s, G, S, R, S2, R2, h1, h2, _⟩ := h
  rw [h2.pairs]
  exact HS.get x key h1.st hx hl
include HS in
theorem SysAt.keys (h : SysAt PAt SAt n w0 w p t r k B) : Calls Tryz.prog 17 #[t, .slice none 0 0] w fun e w' => ∃ v vs, e = .returned v ∧ ListsAt w.heap.size w' v vs (r.pairs.map (·.1)) ∧ Below w.heap.size w w' := by
  obtain ⟨T, s, G, S, R, S2, R2, h1, h2, _⟩ := h
  rw [h2.pairs]
  have := HS.keys (.slice none 0 0) [] h1.st (bytes_nil _) (by simp)
  rw [show keysP G.pairs [] = G.pairs.map (·.1) by unfold keysP; rw [List.filter_eq_self]; intro a _; rfl] at this
  exact this
include HS in
theorem TwoAt.get (h : TwoAt PAt SAt n w0 w p t q u r r2 k k2) {x : Value} {key : Bs} (hx : BytesAt w x key) (hl : key.length ≤ 1000000) : Calls Tryz.prog 15 #[t, x] w fun e w' => ∃ v, e = .returned (.tuple #[v, .bool (getP r.pairs key).isSome]) ∧ OwnB w' w.heap.size v ((getP r.pairs key).getD []) ∧ Below w.heap.size w w' := by
  obtain ⟨A, B, h1, h2, h3⟩ := h
  exact h1.get HS hx hl
include HS in
theorem TwoAt.keys (h : TwoAt PAt SAt n w0 w p t q u r r2 k k2) : Calls Tryz.prog 17 #[t, .slice none 0 0] w fun e w' => ∃ v vs, e = .returned v ∧ ListsAt w.heap.size w' v vs (r.pairs.map (·.1)) ∧ Below w.heap.size w w' := by
  obtain ⟨A, B, h1, h2, h3⟩ := h
  exact h1.keys HS
/-- Two new plates. -/
def OnTwo (PAt : Set_ → Set_ → World → Value → PS → Prop) (n : Nat) (w0 w : World) (p q : Value) : Prop := ∃ S R S2 R2, On PAt w0 w p S R (newS n) ∧ On PAt w0 w q S2 R2 (newS n) ∧ ∀ j, S j ∨ R j → ¬ (S2 j ∨ R2 j)
include HP in
theorem OnTwo.second {S R : Set_} (h : On PAt w0 w p S R (newS n)) (h8 : 8 ≤ n) (hn : n ≤ 16384) : Calls Tryz.prog 9 #[.int .i64 (n : Int)] w fun e w' => ∃ a, e = .returned (.pointer (some a)) ∧ OnTwo PAt n w0 w' p (.pointer (some a)) := by
  refine (HP.new_yes w n h8 hn).mono ?_
  rintro e w' ⟨p1, rfl, S1, R1, q1, q2, q3⟩
  obtain ⟨pa, rfl⟩ := HP.ptr q1
  have hs := h.b.size
  exact ⟨pa, rfl, S, R, S1, R1, ⟨HP.kept h.p (T := none_) (Aside.of_below q3) fun _ hk => hk.elim, h.ge, h.b.trans (q3.mono hs)⟩, ⟨q1, fun j hj => Nat.le_trans hs (q2 j hj), h.b.trans (q3.mono hs)⟩, fun j hj hj2 => by have := HP.old h.p j hj; have := q2 j hj2; omega⟩
include HP HS in
theorem SysAt.first {S R : Set_} (h : On PAt w0 w p S R (newS n)) (h4 : 4 ≤ n) (hn : n ≤ 16384) :
    Calls Tryz.prog 10 #[p] w fun e w' => ∃ a, e = .returned (.tuple #[.pointer (some a), .int .i64 0]) ∧ ∃ B, SysAt PAt SAt n w0 w' p (.pointer (some a)) ⟨(n - 2) / 2, 1, 1, []⟩ 1 B ∧ (∀ j, B j → (S j ∨ R j) ∨ w.heap.size ≤ j) ∧ Aside S w w' := by
  obtain ⟨G1, s1, ho1, hG1, hB1⟩ := new_opened h4 hn
  have hl1 : s1.safe.length = n := by
    have := open_len (newS n) ((n - 2) / 2)
    rw [ho1] at this
    rw [this]
    exact List.length_replicate
  have hr0 : AtRest ((n - 2) / 2) 0 (newS n) [] := Or.inr ⟨rfl, new_bare (n := n) (by omega) (by omega) (rest_new n 0 0 1 hn (by omega) (by omega) (by omega)).ok rfl rfl rfl⟩
  refine (HS.open_ _ _ _ h.p hr0 (by omega) (by rw [show (newS n).safe.length = n from List.length_replicate])).mono ?_
  rw [ho1]
  rintro e w' ⟨v, rfl, S', R', S2, R2, q1, q2, q3, q4, q5, _, q7, q8, q9, q10⟩
  have hst := q5 G1 rfl
  obtain ⟨a, rfl⟩ := HS.ptr hst
  have hs := h.b.size
  have hall : ∀ j, (S' j ∨ R' j) ∨ S2 j ∨ R2 j → (S j ∨ R j) ∨ w.heap.size ≤ j := fun j hj => by
    rcases hj with (hj | hj) | hj | hj
    · exact (q2 j hj).elim (fun h => Or.inl (Or.inl h)) Or.inr
    · exact (q3 j hj).elim (fun h => Or.inl (Or.inr h)) Or.inr
    · exact (q7 j hj).elim (fun h => Or.inl (Or.inl h)) Or.inr
    · exact Or.inr (q8 j hj)
  have hge : ∀ j, (S j ∨ R j) ∨ w.heap.size ≤ j → w0.heap.size ≤ j := fun j hj => hj.elim (h.ge j) fun h => by omega
  have hold : ∀ j, (S' j ∨ R' j) ∨ S2 j ∨ R2 j → j < w'.heap.size := fun j hj => hj.elim (HP.old q1 j) (HS.old hst j)
  refine ⟨a, rfl, fun j => (S' j ∨ R' j) ∨ S2 j ∨ R2 j, ⟨1, s1, G1, S', R', S2, R2, ⟨hst, q1, q9, q10, fun j hj => hge j (hall j (Or.inl hj)), fun j hj => hge j (hall j (Or.inr hj)), h.b.trans (q4.below hs fun j hj => h.ge j (Or.inl hj))⟩, hB1, Nat.le_refl _, hl1, hG1, fun j hj => hj, fun j hj => ⟨hge j (hall j hj), hold j hj⟩⟩, hall, q4⟩
/-- The first of two plates has its store. -/
def OneTwo (PAt : Set_ → Set_ → World → Value → PS → Prop) (SAt : Set_ → Set_ → World → Value → Value → SS → Prop) (n : Nat) (w0 w : World) (p t q : Value) : Prop := ∃ A S2 R2, SysAt PAt SAt n w0 w p t ⟨(n - 2) / 2, 1, 1, []⟩ 1 A ∧ On PAt w0 w q S2 R2 (newS n) ∧ ∀ j, A j → ¬ (S2 j ∨ R2 j)
include HP HS in
theorem OnTwo.open_ (h : OnTwo PAt n w0 w p q) (h4 : 4 ≤ n) (hn : n ≤ 16384) :
    Calls Tryz.prog 10 #[p] w fun e w' => ∃ a, e = .returned (.tuple #[.pointer (some a), .int .i64 0]) ∧ OneTwo PAt SAt n w0 w' p (.pointer (some a)) q := by
  obtain ⟨S, R, S2, R2, h1, h2, h3⟩ := h
  refine (SysAt.first HP HS h1 h4 hn).mono ?_
  rintro e w' ⟨a, rfl, B, g1, g2, g3⟩
  refine ⟨a, rfl, B, S2, R2, g1, ⟨HP.kept h2.p g3 fun j hj => ⟨fun h => h3 j (Or.inl hj) (Or.inl h), fun h => h3 j (Or.inl hj) (Or.inr h)⟩, h2.ge, g1.b⟩, fun j hj hj2 => ?_⟩
  rcases g2 j hj with h | h
  · exact h3 j h hj2
  · have := HP.old h2.p j hj2; omega
include HP HS in
theorem OneTwo.open_ (h : OneTwo PAt SAt n w0 w p t q) (h4 : 4 ≤ n) (hn : n ≤ 16384) :
    Calls Tryz.prog 10 #[q] w fun e w' => ∃ a, e = .returned (.tuple #[.pointer (some a), .int .i64 0]) ∧ TwoAt PAt SAt n w0 w' p t q (.pointer (some a)) ⟨(n - 2) / 2, 1, 1, []⟩ ⟨(n - 2) / 2, 1, 1, []⟩ 1 1 := by
  obtain ⟨A, S2, R2, h1, h2, h3⟩ := h
  refine (SysAt.first HP HS h2 h4 hn).mono ?_
  rintro e w' ⟨a, rfl, B, g1, g2, g3⟩
  refine ⟨a, rfl, A, B, h1.aside HP HS g3 (fun j hj ha => h3 j ha (Or.inl hj)) (fun j hj => h2.ge j (Or.inl hj)), g1, fun j hj hj2 => ?_⟩
  rcases g2 j hj2 with h | h
  · exact h3 j hj h
  · have := (h1.gen0 j hj).2; omega
end
end Go.Proofs.YtbjgknoipbekoaaGreat
namespace Go.Proofs.YtbjgknoipbekoaaGreat
open Go.RowKit
theorem wr1_small {c : Ch} (hk : c.key.length ≤ 32) (hv : c.val.length ≤ 1000) : (wr1 c).length ≤ 1038 := by
  unfold wr1
  split <;> simp [big_len] <;> omega
theorem wrL_small : ∀ {l : List Ch}, (∀ c ∈ l, c.key.length ≤ 32 ∧ c.val.length ≤ 1000) → (wrL l).length ≤ 1038 * l.length
  | [], _ => by simp [wrL]
  | c :: l, h => by
    have h1 := wr1_small (h c (by simp)).1 (h c (by simp)).2
    have h2 := wrL_small (l := l) fun d hd => h d (by simp [hd])
    rw [wrL_cons, List.length_append, List.length_cons]
    omega
/-- All at once. -/
theorem ref_all {l : List Ch} (hr : RightL l) (hv : ∀ c ∈ l, c.val.length ≤ 1000) (hl : l.length ≤ 30) : (refC ⟨1999, 1, 1, []⟩ l).2 = 0 ∧ (refC ⟨1999, 1, 1, []⟩ l).1.pairs = withP [] l := by
  have hw := wrL_small (l := l) fun c hc => ⟨(hr c hc).2.1, hv c hc⟩
  unfold refC
  rw [if_neg (fun h => h hr)]
  by_cases hn : l = []
  · rw [if_pos hn, hn]
    exact ⟨rfl, rfl⟩
  · rw [if_neg hn, if_pos ⟨by omega, by show 1 + needs _ ≤ 1999; unfold needs; omega⟩]
    exact ⟨rfl, rfl⟩
theorem ref_not {l : List Ch} (hr : ¬ RightL l) (r : RS) : refC r l = (r, 30) := by
  unfold refC
  rw [if_pos hr]
/-- One by one. -/
theorem ref_one {r : RS} {c : Ch} {i : Nat} (hc : rightC c) (hv : c.val.length ≤ 1000) (hi : i < 30) (hh : r.half = 1999) (hg : r.gen = 1) (hu : r.used ≤ 1 + 23 * i) :
    (refC r [c]).2 = 0 ∧ (refC r [c]).1.half = 1999 ∧ (refC r [c]).1.gen = 1 ∧ (refC r [c]).1.used ≤ 1 + 23 * (i + 1) ∧ (refC r [c]).1.pairs = withP r.pairs [c] := by
  have hr : RightL [c] := fun d hd => by rw [List.mem_singleton] at hd; subst hd; exact hc
  have hw := wr1_small hc.2.1 hv
  have hw2 : (wrL [c]).length ≤ 1038 := by rw [wrL_cons]; simpa [wrL] using hw
  have hn : needs (wrL [c]).length ≤ 23 := by unfold needs; omega
  unfold refC
  rw [if_neg (fun h => h hr), if_neg (by simp), if_pos ⟨by omega, by omega⟩]
  exact ⟨rfl, hh, hg, by show r.used + needs _ ≤ _; omega, rfl⟩
theorem with_take {l : List Ch} {i : Nat} {c : Ch} (h : l[i]? = some c) : withP (withP [] (l.take i)) [c] = withP [] (l.take (i + 1)) := by
  rw [← with_app]
  congr 1
  obtain ⟨hl, e⟩ := List.getElem?_eq_some_iff.1 h
  rw [← e, List.take_append_getElem hl]
theorem get_key : ∀ {ps : List (Bs × Bs)} {k : Bs}, k ∈ ps.map (·.1) → (getP ps k).isSome = true
  | [], _, h => by simp at h
  | x :: ps, k, h => by
    unfold getP
    by_cases e : x.1 = k
    · rw [if_pos e]; rfl
    · rw [if_neg e]
      rw [List.map_cons, List.mem_cons] at h
      exact get_key (h.resolve_left fun h => e h.symm)
theorem get_in : ∀ {ps : List (Bs × Bs)} {k b : Bs}, getP ps k = some b → (k, b) ∈ ps
  | [], _, _, h => by cases h
  | x :: ps, k, b, h => by
    unfold getP at h
    by_cases e : x.1 = k
    · rw [if_pos e] at h
      cases h
      subst e
      exact List.mem_cons_self
    · rw [if_neg e] at h
      exact List.mem_cons_of_mem _ (get_in h)
/-- One change, whose parts lie in blocks of K, in a block that was just laid. -/
theorem chs_any {K : Set_} {w : World} {c : Ch} {kv vv : Value} (hk : ElS K w kv c.key) (hv : ElS K w vv c.val) (hK : K w.heap.size) : ChsAt K (w.alloc (.cells #[kv, vv, .bool c.gone] 72)) (.slice (some ⟨w.heap.size, 0, none⟩) 1 1) [c] := by
  obtain ⟨W, hW⟩ : ∃ y, w.alloc (.cells #[kv, vv, .bool c.gone] 72) = y := ⟨_, rfl⟩
  have hb : Below w.heap.size w W := by rw [← hW]; exact (Below.refl _ _).alloc (Nat.le_refl _) _
  have hs : S3 W w.heap.size kv vv (.bool c.gone) := by rw [← hW]; exact S3.new w _ _ _
  rw [hW]
  have hl : w.heap.size < W.heap.size := World.block_lt_of_cell? _ _ hs.c0
  refine ⟨⟨_, 1, rfl, Nat.le_refl 1, fun e => (by cases e)⟩, fun i d hi => ?_⟩
  rcases i with _ | i
  · simp only [List.getElem?_cons_zero, Option.some.injEq] at hi
    subst hi
    exact ⟨_, 0, _, _, rfl, hK, hl, kv, vv, ⟨hs.c0, hs.c1, hs.c2, ⟨hk.at_.below hb, hk.blk⟩, ⟨hv.at_.below hb, hv.blk⟩⟩⟩
  · simp at hi
theorem SysAt.right {PAt : Set_ → Set_ → World → Value → PS → Prop} {SAt : Set_ → Set_ → World → Value → Value → SS → Prop} {n k : Nat} {w0 w : World} {p t : Value} {r : RS} {B : Set_} (h : SysAt PAt SAt n w0 w p t r k B) : RightP r.pairs ∧ r.pairs.length ≤ 65536 := by
  obtain ⟨T, s, G, S, R, S2, R2, h1, h2, _⟩ := h
  rw [h2.pairs]
  exact ⟨h2.live.on.right, h2.live.on.size.2⟩
theorem TwoAt.right {PAt : Set_ → Set_ → World → Value → PS → Prop} {SAt : Set_ → Set_ → World → Value → Value → SS → Prop} {n k k2 : Nat} {w0 w : World} {p t q u : Value} {r r2 : RS} (h : TwoAt PAt SAt n w0 w p t q u r r2 k k2) : RightP r.pairs ∧ r.pairs.length ≤ 65536 := by
  obtain ⟨A, B, h1, _⟩ := h
  exact h1.right
/-- What stands in a list of keys at one place. -/
theorem ListsAt.key {B : Nat} {w : World} {sp : Option Addr} {n c : Nat} {vs : List Value} {l : List Bs} (h : ListsAt B w (.slice sp n c) vs l) {i : Nat} {b : Bs} (hb : l[i]? = some b) : ∃ g o s1 c1, sp = some ⟨g, o, none⟩ ∧ w.cell? ⟨g, o + i, none⟩ = some (.slice s1 b.length c1) ∧ BytesAt w (.slice s1 b.length c1) b := by
  have hi := (List.getElem?_eq_some_iff.1 hb).1
  have hl := h.len
  have hne : vs ≠ [] := by intro e; rw [e] at hl; simp at hl; omega
  obtain ⟨g, o, c', e, _, _, hcell⟩ := ValsAt.cell h.row hne
  simp only [Value.slice.injEq] at e
  obtain ⟨rfl, _, _⟩ := e
  obtain ⟨h1, _, _⟩ := h.each i (vs[i]'(by omega)) b (List.getElem?_eq_getElem _) hb
  obtain ⟨s1, c1, e1, _⟩ := bytes_open h1
  have hc := hcell i (by omega)
  rw [List.getD_eq_getElem?_getD, List.getElem?_eq_getElem (by omega), Option.getD_some, e1] at hc
  rw [e1] at h1
  exact ⟨g, o, s1, c1, rfl, hc, h1⟩
end Go.Proofs.YtbjgknoipbekoaaGreat
namespace Go.Proofs.YtbjgknoipbekoaaGreat
theorem few_write (s : PS) (a : Int) (b : Bs) : (writeS s a b).loose.length ≤ s.loose.length + 1 := by
  unfold writeS
  split
  · omega
  · split
    · omega
    · split
      · show s.loose.length ≤ _; omega
      · show (s.loose ++ _).length ≤ _; simp
theorem few_sync (s : PS) : (syncS s).loose.length ≤ s.loose.length := by
  unfold syncS
  split
  · exact Nat.le_refl _
  · split
    · exact Nat.le_refl _
    · exact Nat.zero_le _
theorem few_put : ∀ (xs : List Bs) (s : PS) (a : Nat), (W.putAll s a xs).1.loose.length ≤ s.loose.length + xs.length
  | [], s, _ => few_sync s
  | x :: xs, s, a => by
    have h1 := few_write s (a : Int) x
    unfold W.putAll
    rw [List.length_cons]
    split
    · have h2 := few_put xs (writeS s (a : Int) x) (a + 1)
      omega
    · show (writeS s (a : Int) x).loose.length ≤ _
      omega
theorem few_append (L : LS) (s : PS) (b : Bs) : (appendP L s b).loose.length ≤ s.loose.length + 1367 := by
  unfold appendP
  split
  · omega
  · split
    · omega
    · split
      · omega
      · have h := few_put (nextS L b) s (L.start + usedR L.rs)
        have h2 : (nextS L b).length = needs b.length := by unfold nextS; exact rec_len _ _ _ _
        have h3 : needs b.length ≤ 1367 := by unfold needs; omega
        show (putL L s b).1.loose.length ≤ _
        unfold putL
        omega
theorem few_clear (s : PS) (h g : Nat) : (clearR s h g).1.loose.length ≤ s.loose.length + 1 := by
  unfold clearR
  split
  · exact Nat.le_trans (few_sync _) (few_write _ _ _)
  · exact few_write _ _ _
theorem few_mark (s : PS) (g : Nat) : (markR s g).1.loose.length ≤ s.loose.length + 1 := by
  unfold markR
  split
  · exact Nat.le_trans (few_sync _) (few_write _ _ _)
  · exact few_write _ _ _
theorem few_begin (s : PS) (h g : Nat) (b : Bs) : (beginR s h g b).1.loose.length ≤ s.loose.length + 1400 := by
  have h1 := few_clear s h g
  unfold beginR
  split
  · have h2 := few_append (openL (clearR s h g).1 (fromG h g) h g) (clearR s h g).1 b
    split
    · have h3 := few_mark (appendP (openL (clearR s h g).1 (fromG h g) h g) (clearR s h g).1 b) g
      show (markR _ _).1.loose.length ≤ _
      omega
    · show (appendP _ _ _).loose.length ≤ _
      omega
  · show (clearR s h g).1.loose.length ≤ _
    omega
theorem few_commit (G : SS) (s : PS) (l : List Ch) : (commitS G s l).2.2.loose.length ≤ s.loose.length + 1400 := by
  unfold commitS
  split
  · show s.loose.length ≤ _; omega
  · split
    · show s.loose.length ≤ _; omega
    · split
      · show s.loose.length ≤ _; omega
      · split
        · have := few_append G.log s (wrL l)
          show (appendP _ _ _).loose.length ≤ _
          omega
        · split
          · show s.loose.length ≤ _; omega
          · exact few_begin _ _ _ _
theorem few_open (s : PS) (h : Nat) : (openS s h).2.2.loose.length ≤ s.loose.length + 1400 := by
  unfold openS
  split
  · exact few_begin _ _ _ _
  · split
    · show s.loose.length ≤ _; omega
    · split <;> (show s.loose.length ≤ _; omega)
theorem AtRest.loose {h T : Nat} {s : PS} {ps : List (Bs × Bs)} (H : AtRest h T s ps) : s.loose = [] := by
  rcases H with ⟨g, rs, H⟩ | ⟨_, H⟩
  · exact H.rest.loose
  · exact H.rest.loose
theorem AtRest.right {h T : Nat} {s : PS} {ps : List (Bs × Bs)} (H : AtRest h T s ps) : RightP ps ∧ SortedP ps ∧ ps.length ≤ 65536 := by
  rcases H with ⟨g, rs, H⟩ | ⟨e, _⟩
  · exact ⟨H.right, H.sorted, H.size.2⟩
  · subst e
    exact ⟨(fun x hx => by cases hx), List.Pairwise.nil, Nat.zero_le _⟩
theorem AtRest.mono {h T T' : Nat} {s : PS} {ps : List (Bs × Bs)} (H : AtRest h T s ps) (hT : T ≤ T') : AtRest h T' s ps := by
  rcases H with H | ⟨e, H⟩
  · exact Or.inl (H.mono hT)
  · exact Or.inr ⟨e, H.mono hT⟩
theorem AtRest.arm {h T : Nat} {s : PS} {ps : List (Bs × Bs)} (H : AtRest h T s ps) {k : Int} (hk : k ≤ 9223372036854775807) : AtRest h T (armS s k) ps := by
  rcases H with ⟨g, rs, H⟩ | ⟨e, H⟩
  · exact Or.inl ⟨g, rs, H.arm hk⟩
  · exact Or.inr ⟨e, H.arm hk⟩
/-- Opened without a crash. -/
theorem AtRest.opened {h T : Nat} {s : PS} {ps : List (Bs × Bs)} (H : AtRest h T s ps) (hT : T + 1 < 4294967296) (hl : s.left < 0) :
    ∃ G s', openS s h = (0, some G, s') ∧ G.half = h ∧ G.pairs = ps ∧ G.closed = false ∧ Live h G.gen (T + 1) s' G.log ps := by
  have h0 : (openS s h).1 = 0 := by
    rcases H with ⟨g, rs, H⟩ | ⟨_, H⟩
    · have hcon : contentS s = s.safe := by unfold contentS; rw [H.rest.loose]; rfl
      have hm : topM s = g := by unfold topM; rw [hcon]; exact H.marks
      have hg := H.g0
      obtain ⟨o1, o2⟩ := H.open_ hT
      unfold openS
      rw [hm, if_neg (by omega), o2, if_neg H.ne, H.lead]
    · obtain ⟨S, s', e, _⟩ := H.opened hT hl
      rw [e]
  rcases open_step H hT with ⟨_, S, e1, e2, e3, e4, e5⟩ | ⟨e1, _⟩
  · refine ⟨S, (openS s h).2.2, ?_, e2, e3, e4, e5⟩
    rw [← e1, ← h0]
  · rw [h0] at e1
    cases e1
theorem ins_lenW (c : Ch) : ∀ (put : Bool) (ps : List (Bs × Bs)), (insP c put ps).length + (if put = true then 1 else 0) ≤ ps.length + 1
  | put, [] => by cases put <;> simp [insP]
  | put, x :: ps => by
    have h1 := ins_lenW c (put || !lessB x.1 c.key) ps
    have h2 : (if x.1 = c.key then [] else [x]).length ≤ 1 := by split <;> simp
    show ((if put = false ∧ lessB x.1 c.key = false then [(c.key, c.val)] else []) ++ ((if x.1 = c.key then [] else [x]) ++ insP c (put || !lessB x.1 c.key) ps)).length + _ ≤ _
    rw [List.length_append, List.length_append, List.length_cons]
    cases put <;> cases hl : lessB x.1 c.key <;> rw [hl] at h1 <;> simp at h1 ⊢ <;> omega
theorem with_lenW : ∀ (l : List Ch) (ps : List (Bs × Bs)), (withP ps l).length ≤ ps.length + l.length
  | [], ps => Nat.le_refl _
  | c :: l, ps => by
    have h1 := with_lenW l (insP c c.gone ps)
    have h2 := ins_lenW c c.gone ps
    rw [with_cons, List.length_cons]
    omega
/-- A life of a store: what must be there behind it. -/
def LifeP (h T : Nat) (s : PS) (G : SS) (rp ap : List (Bs × Bs)) (cut : Bool) : Prop :=
  RightP rp ∧ RightP ap ∧ SortedP rp ∧ rp.length ≤ 65536 ∧ ap.length ≤ 100000 ∧ s.loose.length ≤ 2000 ∧
    ((cut = false ∧ G.closed = false ∧ ap = rp ∧ G.pairs = rp ∧ Live h G.gen T s G.log rp) ∨ (cut = true ∧ G.closed = true ∧ ∀ keep, Has h T (reviveS s keep) rp ∨ Has h T (reviveS s keep) ap))
theorem LifeP.start {h T : Nat} {s : PS} {G : SS} {ps : List (Bs × Bs)} (hc : G.closed = false) (hp : G.pairs = ps) (H : Live h G.gen T s G.log ps) : LifeP h T s G ps ps false :=
  ⟨H.on.right, H.on.right, H.on.sorted, H.on.size.2, by have := H.on.size.2; omega, by rw [H.on.rest.loose]; exact Nat.zero_le _, Or.inl ⟨rfl, hc, rfl, hp, H⟩⟩
/-- A commit in a life. -/
theorem LifeP.commit {h T : Nat} {s : PS} {G : SS} {rp ap : List (Bs × Bs)} {cut : Bool} (H : LifeP h T s G rp ap cut) (hh : G.half = h) (hT : T + 1 < 4294967296) (l : List Ch) (hl : l.length ≤ 12) :
    (cut = true ∧ (commitS G s l).1 = 61 ∧ (commitS G s l).2 = (G, s)) ∨
    (cut = false ∧ (commitS G s l).1 = 0 ∧ (commitS G s l).2.1.half = h ∧ RightL l ∧ LifeP h (T + 1) (commitS G s l).2.2 (commitS G s l).2.1 (withP rp l) (withP rp l) false) ∨
    (cut = false ∧ (commitS G s l).1 = 50 ∧ (commitS G s l).2.1.half = h ∧ RightL l ∧ LifeP h (T + 1) (commitS G s l).2.2 (commitS G s l).2.1 rp (withP rp l) true) ∨
    (cut = false ∧ ((commitS G s l).1 = 52 ∨ (commitS G s l).1 = 30) ∧ (commitS G s l).2 = (G, s)) := by
  subst hh
  obtain ⟨h1, h2, h3, h4, h5, h6, h7⟩ := H
  rcases h7 with ⟨rfl, hc, rfl, hp, hL⟩ | ⟨rfl, hc, _⟩
  · by_cases hr : RightL l
    · by_cases hn : l = []
      · subst hn
        have e : commitS G s [] = (0, G, s) := by
          unfold commitS
          rw [hc, if_neg (by decide), if_neg (fun h => h hr), if_pos rfl]
        rw [e]
        refine Or.inr (Or.inl ⟨rfl, rfl, rfl, hr, ?_⟩)
        exact LifeP.start hc hp ⟨hL.on.mono (by omega), hL.li, hL.start, hL.size, hL.gen, hL.shut, by have := hL.op; show G.log.opening ≤ _; omega⟩
      · have hf := few_commit G s l
        rw [hL.on.rest.loose] at hf
        have hfl : (commitS G s l).2.2.loose.length ≤ 2000 := by simp at hf; omega
        have hL' : Live G.half G.gen T s G.log G.pairs := by rw [hp]; exact hL
        rcases commit_step hL' hc hT hr hn with ⟨c1, c2⟩ | ⟨c1, c2, c3, c4, c5⟩ | ⟨c1, c2, c3, c4, c5, c6⟩
        · exact Or.inr (Or.inr (Or.inr ⟨rfl, Or.inl c1, c2⟩))
        · rw [hp] at c3 c5
          exact Or.inr (Or.inl ⟨rfl, c1, c2, hr, LifeP.start c4 c3 c5⟩)
        · rw [hp] at c4 c6
          have hw := with_lenW l G.pairs
          rw [hp] at hw
          exact Or.inr (Or.inr (Or.inl ⟨rfl, c1, c2, hr, h1, with_right hr h1, h3, h4, by omega, hfl, Or.inr ⟨rfl, c5, c6⟩⟩))
    · have e : commitS G s l = (30, G, s) := by
        unfold commitS
        rw [hc, if_neg (by decide), if_pos hr]
      rw [e]
      exact Or.inr (Or.inr (Or.inr ⟨rfl, Or.inr rfl, rfl⟩))
  · have e : commitS G s l = (61, G, s) := by
      unfold commitS
      rw [hc, if_pos rfl]
    rw [e]
    exact Or.inl ⟨rfl, rfl, rfl⟩
/-- The power goes. -/
theorem LifeP.crash {h T : Nat} {s : PS} {G : SS} {rp ap : List (Bs × Bs)} {cut : Bool} (H : LifeP h T s G rp ap cut) (keep : List Bool) : ∃ qs, (qs = rp ∨ qs = ap) ∧ AtRest h T (reviveS s keep) qs := by
  obtain ⟨h1, h2, h3, h4, h5, h6, h7⟩ := H
  rcases h7 with ⟨_, hc, rfl, hp, hL⟩ | ⟨_, hc, hk⟩
  · exact ⟨ap, Or.inl rfl, Or.inl (hL.crash keep)⟩
  · rcases hk keep with h | h
    · exact ⟨rp, Or.inl rfl, Or.inl h⟩
    · exact ⟨ap, Or.inr rfl, Or.inl h⟩
end Go.Proofs.YtbjgknoipbekoaaGreat
