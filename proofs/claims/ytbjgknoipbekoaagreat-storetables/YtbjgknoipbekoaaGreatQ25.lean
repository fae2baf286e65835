/-
  The walk of Same: whether two slices hold the same bytes.
  StoreOwn out of the records.
  StoreTurns: plain words, and a store that stays beside another one on the same plate.
  Two plates and their stores, side by side; StoreAsOne's plain words.
  StoreAsOne's plain words; one change of the list in a block that was just laid.
-/
import Derived.Test.YtbjgknoipbekoaaGreatQ0
import Derived.Test.YtbjgknoipbekoaaGreatQ24
namespace Go.Proofs.YtbjgknoipbekoaaGreat
open Go.RowKit
theorem take_eq_succ {a b : Bs} {k : Nat} (h : a.take k = b.take k) (ha : k < a.length) (hb : k < b.length) (he : (a.getD k 0).toNat = (b.getD k 0).toNat) : a.take (k + 1) = b.take (k + 1) := by
  have e : a[k] = b[k] := by
    apply UInt8.toNat_inj.1
    simpa [List.getD_eq_getElem?_getD, ha, hb] using he
  rw [List.take_add_one, List.take_add_one, h, List.getElem?_eq_getElem ha, List.getElem?_eq_getElem hb, e]
end Go.Proofs.YtbjgknoipbekoaaGreat
namespace Go.Proofs.YtbjgknoipbekoaaGreat
open Go.RowKit
theorem bytes_pokes {w : World} {g o n c : Nat} {l : Bs} (h : BytesAt w (.slice (some ⟨g, o, none⟩) n c) l) (i : Nat) (hi : i < l.length) (y : UInt8) : BytesAt (w.setCell ⟨g, o + i, none⟩ (.int .u8 (y.toNat : Int))) (.slice (some ⟨g, o, none⟩) n c) (l.set i y) := by
  obtain ⟨sp, c', e, h1, h2, h3⟩ := h
  simp only [Value.slice.injEq] at e
  obtain ⟨rfl, hn, rfl⟩ := e
  refine ⟨some ⟨g, o, none⟩, c, by rw [hn]; simp, by simpa using h1, h2, fun _ => ⟨g, o, rfl, fun j v hv => ?_⟩⟩
  have hne : l.map bv ≠ [] := by intro e; have := congrArg List.length e; simp at this; subst this; simp at hi
  obtain ⟨b, o', e, hr⟩ := h3 hne
  simp only [Option.some.injEq, Addr.mk.injEq, and_true] at e
  obtain ⟨rfl, rfl⟩ := e
  rw [List.map_set, List.getElem?_set] at hv
  by_cases hij : i = j
  · subst hij
    rw [if_pos rfl, if_pos (by simpa using hi)] at hv
    have h0 := hr i (bv (l[i])) (by simp [hi])
    rw [World.cell?_setCell_same _ _ _ h0]
    exact hv
  · rw [if_neg hij] at hv
    rw [World.cell?_setCell_other _ _ _ _ (by intro e; simp only [Addr.mk.injEq, true_and, and_true] at e; omega)]
    exact hr j v hv
/-- n bytes, whatever they are, that may be written over. -/
def Fl (w : World) (v : Value) (n : Nat) : Prop := ∃ m : Bs, m.length = n ∧ BytesAt w v m ∧ FreeAt w v n
theorem Fl.aside {S : Set_} {a b : World} {v : Value} {n : Nat} (h : Fl a v n) (hb : Aside S a b) (hv : ∀ k, v.ownBlock = some k → ¬ S k) : Fl b v n := by
  obtain ⟨m, h1, h2, h3⟩ := h
  refine ⟨m, h1, h2.aside hb hv, fun g o c q e j hj => ?_⟩
  have hne : m ≠ [] := by intro e; rw [e] at h1; simp at h1; omega
  have hk : v.ownBlock = some g := by rw [e]; rfl
  rw [World.frozen?_of_block (hb.block g (ValsAt.old h2 (by simpa using hne) g hk) (hv g hk))]
  exact h3 g o c q e j hj
theorem Fl.of {w : World} {B : Nat} {v : Value} {l : Bs} (h : OwnB w B v l) : Fl w v l.length := ⟨l, rfl, h.bytes, free_own h⟩
end Go.Proofs.YtbjgknoipbekoaaGreat
namespace Go.Proofs.YtbjgknoipbekoaaGreat
open Go.RowKit
section
variable {PAt : Set_ → Set_ → World → Value → PS → Prop} {SAt : Set_ → Set_ → World → Value → Value → SS → Prop} (HP : Plate PAt) (HS : Store PAt SAt)
end
/-- One byte is written over. -/
theorem Fl.put {w : World} {g n c i : Nat} (h : Fl w (.slice (some ⟨g, 0, none⟩) n c) n) (hi : i < n) (y : UInt8) : (∃ x : UInt8, w.cell? ⟨g, i, none⟩ = some (.int .u8 (x.toNat : Int))) ∧ w.frozen? ⟨g, i, none⟩ = false ∧ Fl (w.setCell ⟨g, i, none⟩ (.int .u8 (y.toNat : Int))) (.slice (some ⟨g, 0, none⟩) n c) n ∧ Aside (fun k => k = g) w (w.setCell ⟨g, i, none⟩ (.int .u8 (y.toNat : Int))) := by
  obtain ⟨m, h1, h2, h3⟩ := h
  have hne : m ≠ [] := by intro e; rw [e] at h1; simp at h1; omega
  obtain ⟨sp', c', e, _, _, hc⟩ := bytes_open h2
  simp only [Value.slice.injEq] at e
  obtain ⟨rfl, _, _⟩ := e
  obtain ⟨g', o', e, _, hcell⟩ := hc hne
  simp only [Option.some.injEq, Addr.mk.injEq, and_true] at e
  obtain ⟨rfl, rfl⟩ := e
  have hc0 := hcell i (by omega)
  have hf0 := h3 g 0 c n rfl i hi
  have hb0 := bytes_pokes h2 i (by omega) y
  simp only [Nat.zero_add] at hc0 hf0 hb0
  refine ⟨⟨_, hc0⟩, hf0, ⟨m.set i y, by rw [List.length_set]; exact h1, hb0, fun g' o' c'' q e j hj => ?_⟩, Aside.of_grown (setCell_grown g i _) fun k e => by simpa using e.symm⟩
  simp only [Value.slice.injEq, Option.some.injEq, Addr.mk.injEq, and_true] at e
  obtain ⟨⟨rfl, rfl⟩, rfl, rfl⟩ := e
  rw [World.frozen?_setCell]
  exact h3 _ _ _ _ rfl j hj
end Go.Proofs.YtbjgknoipbekoaaGreat
namespace Go.Proofs.YtbjgknoipbekoaaGreat
open Go.RowKit
/-- A store beside the reference's on a plate of n sectors; all their blocks are in B, and were made behind w0. -/
def SysAt (PAt : Set_ → Set_ → World → Value → PS → Prop) (SAt : Set_ → Set_ → World → Value → Value → SS → Prop) (n : Nat) (w0 w : World) (p t : Value) (r : RS) (k : Nat) (B : Set_) : Prop :=
  ∃ (T : Nat) (s : PS) (G : SS) (S R S2 R2 : Set_), Stg PAt SAt w0 w p t S R S2 R2 s G ∧ Beside T s G r ∧ T ≤ k ∧ s.safe.length = n ∧ G.half = (n - 2) / 2 ∧ (∀ j, (S j ∨ R j) ∨ S2 j ∨ R2 j → B j) ∧ ∀ j, B j → w0.heap.size ≤ j ∧ j < w.heap.size
theorem ref_half (r : RS) (l : List Ch) : (refC r l).1.half = r.half := by
  unfold refC
  split
  · rfl
  · split
    · rfl
    · split
      · rfl
      · split <;> rfl
section
variable {PAt : Set_ → Set_ → World → Value → PS → Prop} {SAt : Set_ → Set_ → World → Value → Value → SS → Prop} (HP : Plate PAt) (HS : Store PAt SAt)
variable {n k k2 : Nat} {w0 w w' : World} {p t q u : Value} {r r2 : RS} {A B : Set_}
include HP HS in
theorem SysAt.below (h : SysAt PAt SAt n w0 w p t r k B) (hb : Below w.heap.size w w') : SysAt PAt SAt n w0 w' p t r k B := by
  obtain ⟨T, s, G, S, R, S2, R2, h1, h2, h3, h4, h5, h6, h7⟩ := h
  exact ⟨T, s, G, S, R, S2, R2, h1.below HP HS hb, h2, h3, h4, h5, h6, fun j hj => ⟨(h7 j hj).1, Nat.lt_of_lt_of_le (h7 j hj).2 hb.size⟩⟩
include HP HS in
theorem SysAt.aside (h : SysAt PAt SAt n w0 w p t r k B) {T : Set_} (ha : Aside T w w') (hT : ∀ j, T j → ¬ B j) (hg : ∀ j, T j → w0.heap.size ≤ j) : SysAt PAt SAt n w0 w' p t r k B := by
  obtain ⟨T, s, G, S, R, S2, R2, h1, h2, h3, h4, h5, h6, h7⟩ := h
  exact ⟨T, s, G, S, R, S2, R2, h1.kept HP HS ha (fun j hj => ⟨⟨fun h => hT j hj (h6 j (Or.inl (Or.inl h))), fun h => hT j hj (h6 j (Or.inl (Or.inr h)))⟩, fun h => hT j hj (h6 j (Or.inr (Or.inl h))), fun h => hT j hj (h6 j (Or.inr (Or.inr h)))⟩) hg, h2, h3, h4, h5, h6, fun j hj => ⟨(h7 j hj).1, Nat.lt_of_lt_of_le (h7 j hj).2 ha.size⟩⟩
theorem SysAt.b (h : SysAt PAt SAt n w0 w p t r k B) : Below w0.heap.size w0 w := by
  obtain ⟨T, s, G, S, R, S2, R2, h1, _⟩ := h
  exact h1.b
include HP HS in
/-- A Commit of one of them, of changes that lie in blocks of K. -/
theorem SysAt.commit {K : Set_} {x : Value} {l : List Ch} (h : SysAt PAt SAt n w0 w p t r k B) (hx : ChsAt K w x l) (hK : ∀ j, K j → ¬ B j) (hl : l.length ≤ 1000) (hk : k + 1 < 4294967296) (hg : r.gen < 2147483647) :
    Calls Tryz.prog 14 #[t, x] w fun e w' => e = .returned (.int .i64 (refC r l).2) ∧ SysAt PAt SAt n w0 w' p t (refC r l).1 (k + 1) (fun j => (B j ∨ w.heap.size ≤ j) ∧ j < w'.heap.size) ∧ Aside B w w' := by
  obtain ⟨T, s, G, S, R, S2, R2, h1, h2, h3, h4, h5, h6, h7⟩ := h
  obtain ⟨hc1, hB2⟩ := h2.commit (by omega) (by rw [← h2.gen]; exact hg) l
  have hlen := commit_len G s l
  refine (h1.commit HS hx (fun j hj => ⟨fun h => hK j hj (h6 j (Or.inl (Or.inl h))), fun h => hK j hj (h6 j (Or.inr (Or.inl h)))⟩) hl (by rw [h4]; exact h5) fun _ => ⟨h2.live, by omega⟩).mono ?_
  rintro e w' ⟨rfl, ⟨S', R', S2', R2', g3, g4⟩, g5⟩
  have hs := g5.size
  have h0 := h1.b.size
  have hge : ∀ j, (S' j ∨ R' j) ∨ S2' j ∨ R2' j → j < w'.heap.size := fun j hj => hj.elim (HP.old g3.p j) (HS.old g3.st j)
  rw [hc1]
  refine ⟨rfl, ⟨T + 1, _, _, S', R', S2', R2', g3, hB2, by omega, by rw [hlen]; exact h4, ?_, fun j hj => ⟨?_, hge j hj⟩, fun j hj => ⟨?_, hj.2⟩⟩, g5.mono fun j _ hj => h6 j (hj.elim (fun h => Or.inl (Or.inl h)) fun h => Or.inr (Or.inl h))⟩
  · rw [← hB2.half, ref_half, h2.half]; exact h5
  · exact (g4 j hj).elim (fun h => Or.inl (h6 j h)) Or.inr
  · rcases hj.1 with h | h
    · exact (h7 j h).1
    · omega
theorem SysAt.gen0 (h : SysAt PAt SAt n w0 w p t r k B) : ∀ j, B j → w0.heap.size ≤ j ∧ j < w.heap.size := by
  obtain ⟨T, s, G, S, R, S2, R2, h1, h2, h3, h4, h5, h6, h7⟩ := h
  exact h7
include HS in
theorem SysAt.get (h : SysAt PAt SAt n w0 w p t r k B) {x : Value} {key : Bs} (hx : BytesAt w x key) (hl : key.length ≤ 1000000) : Calls Tryz.prog 15 #[t, x] w fun e w' => ∃ v, e = .returned (.tuple #[v, .bool (getP r.pairs key).isSome]) ∧ OwnB w' w.heap.size v ((getP r.pairs key).getD []) ∧ Below w.heap.size w w' := by
  obtain ⟨T, s, G, S, R, S2, R2, h1, h2, _⟩ := h
  rw [h2.pairs]
  exact HS.get x key h1.st hx hl
include HS in
theorem SysAt.keys (h : SysAt PAt SAt n w0 w p t r k B) : Calls Tryz.prog 17 #[t, .slice none 0 0] w fun e w' => ∃ v vs, e = .returned v ∧ ListsAt w.heap.size w' v vs (r.pairs.map (·.1)) ∧ Below w.heap.size w w' := by
  obtain ⟨T, s, G, S, R, S2, R2, h1, h2, _⟩ := h
  rw [h2.pairs]
  have := HS.keys (.slice none 0 0) [] h1.st (bytes_nil _) (by simp)
  rw [show keysP G.pairs [] = G.pairs.map (·.1) by unfold keysP; rw [List.filter_eq_self]; intro a _; rfl] at this
  exact this
include HP HS in
theorem SysAt.first {S R : Set_} (h : On PAt w0 w p S R (newS n)) (h4 : 4 ≤ n) (hn : n ≤ 16384) :
    Calls Tryz.prog 10 #[p] w fun e w' => ∃ a, e = .returned (.tuple #[.pointer (some a), .int .i64 0]) ∧ ∃ B, SysAt PAt SAt n w0 w' p (.pointer (some a)) ⟨(n - 2) / 2, 1, 1, []⟩ 1 B ∧ (∀ j, B j → (S j ∨ R j) ∨ w.heap.size ≤ j) ∧ Aside S w w' := by
  obtain ⟨G1, s1, ho1, hG1, hB1⟩ := new_opened h4 hn
  have hl1 : s1.safe.length = n := by
    have := open_len (newS n) ((n - 2) / 2)
    rw [ho1] at this
    rw [this]
    exact List.length_replicate
  have hr0 : AtRest ((n - 2) / 2) 0 (newS n) [] := Or.inr ⟨rfl, new_bare (n := n) (by omega) (by omega) (rest_new n 0 0 1 hn (by omega) (by omega) (by omega)).ok rfl rfl rfl⟩
  refine (HS.open_ _ _ _ h.p hr0 (by omega) (by rw [show (newS n).safe.length = n from List.length_replicate])).mono ?_
  rw [ho1]
  rintro e w' ⟨v, rfl, S', R', S2, R2, q1, q2, q3, q4, q5, _, q7, q8, q9, q10⟩
  have hst := q5 G1 rfl
  obtain ⟨a, rfl⟩ := HS.ptr hst
  have hs := h.b.size
  have hall : ∀ j, (S' j ∨ R' j) ∨ S2 j ∨ R2 j → (S j ∨ R j) ∨ w.heap.size ≤ j := fun j hj => by
    rcases hj with (hj | hj) | hj | hj
    · exact (q2 j hj).elim (fun h => Or.inl (Or.inl h)) Or.inr
    · exact (q3 j hj).elim (fun h => Or.inl (Or.inr h)) Or.inr
    · exact (q7 j hj).elim (fun h => Or.inl (Or.inl h)) Or.inr
    · exact Or.inr (q8 j hj)
  have hge : ∀ j, (S j ∨ R j) ∨ w.heap.size ≤ j → w0.heap.size ≤ j := fun j hj => hj.elim (h.ge j) fun h => by omega
  have hold : ∀ j, (S' j ∨ R' j) ∨ S2 j ∨ R2 j → j < w'.heap.size := fun j hj => hj.elim (HP.old q1 j) (HS.old hst j)
  refine ⟨a, rfl, fun j => (S' j ∨ R' j) ∨ S2 j ∨ R2 j, ⟨1, s1, G1, S', R', S2, R2, ⟨hst, q1, q9, q10, fun j hj => hge j (hall j (Or.inl hj)), fun j hj => hge j (hall j (Or.inr hj)), h.b.trans (q4.below hs fun j hj => h.ge j (Or.inl hj))⟩, hB1, Nat.le_refl _, hl1, hG1, fun j hj => hj, fun j hj => ⟨hge j (hall j hj), hold j hj⟩⟩, hall, q4⟩
end
end Go.Proofs.YtbjgknoipbekoaaGreat
namespace Go.Proofs.YtbjgknoipbekoaaGreat
open Go.RowKit
theorem SysAt.right {PAt : Set_ → Set_ → World → Value → PS → Prop} {SAt : Set_ → Set_ → World → Value → Value → SS → Prop} {n k : Nat} {w0 w : World} {p t : Value} {r : RS} {B : Set_} (h : SysAt PAt SAt n w0 w p t r k B) : RightP r.pairs ∧ r.pairs.length ≤ 65536 := by
  obtain ⟨T, s, G, S, R, S2, R2, h1, h2, _⟩ := h
  rw [h2.pairs]
  exact ⟨h2.live.on.right, h2.live.on.size.2⟩
/-- What stands in a list of keys at one place. -/
theorem ListsAt.key {B : Nat} {w : World} {sp : Option Addr} {n c : Nat} {vs : List Value} {l : List Bs} (h : ListsAt B w (.slice sp n c) vs l) {i : Nat} {b : Bs} (hb : l[i]? = some b) : ∃ g o s1 c1, sp = some ⟨g, o, none⟩ ∧ w.cell? ⟨g, o + i, none⟩ = some (.slice s1 b.length c1) ∧ BytesAt w (.slice s1 b.length c1) b := by
  have hi := (List.getElem?_eq_some_iff.1 hb).1
  have hl := h.len
  have hne : vs ≠ [] := by intro e; rw [e] at hl; simp at hl; omega
  obtain ⟨g, o, c', e, _, _, hcell⟩ := ValsAt.cell h.row hne
  simp only [Value.slice.injEq] at e
  obtain ⟨rfl, _, _⟩ := e
  obtain ⟨h1, _, _⟩ := h.each i (vs[i]'(by omega)) b (List.getElem?_eq_getElem _) hb
  obtain ⟨s1, c1, e1, _⟩ := bytes_open h1
  have hc := hcell i (by omega)
  rw [List.getD_eq_getElem?_getD, List.getElem?_eq_getElem (by omega), Option.getD_some, e1] at hc
  rw [e1] at h1
  exact ⟨g, o, s1, c1, rfl, hc, h1⟩
end Go.Proofs.YtbjgknoipbekoaaGreat
