/-
  StoreTurns: plain words, and a store that stays beside another one on the same plate.
  StoreTurns: the store between two rounds, and the calls of a round.
-/
import Derived.Test.YtbjgknoipbekoaaQ24
namespace Go.Proofs.Ytbjgknoipbekoaa
open Go.RowKit
/-- What the reference answers in one round of StoreTurns. -/
theorem turn_ref {r : RS} {v : Bs} (hv : v.length ≤ 40) (hp : r.pairs = [] ∨ ∃ u, r.pairs = [([107], u)]) (hh : 2 ≤ r.half) :
    (refC r [⟨[107], v, false⟩]).2 = 0 ∧ (refC r [⟨[107], v, false⟩]).1.pairs = [([107], v)] ∧ (refC r [⟨[107], v, false⟩]).1.half = r.half ∧ r.gen ≤ (refC r [⟨[107], v, false⟩]).1.gen ∧ (refC r [⟨[107], v, false⟩]).1.gen ≤ r.gen + 1 := by
  have hR : RightL [⟨[107], v, false⟩] := fun c hc => by
    rw [List.mem_singleton] at hc
    subst hc
    exact ⟨Nat.le_refl 1, (by decide : (1 : Nat) ≤ 32), fun _ => by show v.length ≤ 8192; omega⟩
  have hw : withP r.pairs [⟨[107], v, false⟩] = [([107], v)] := by
    rcases hp with e | ⟨u, e⟩
    · rw [e]; rfl
    · rw [e]; show insP _ false [([107], u)] = _; simp [insP, less_irrefl]
  have hl1 : (wrL [⟨[107], v, false⟩]).length ≤ 47 := by
    rw [wrL_cons, List.length_append, size_set _ rfl]
    show 6 + 1 + v.length + (wrL []).length ≤ _
    simp [wrL]
    omega
  have hl2 : (wrL (allP [([107], v)])).length ≤ 47 := hl1
  have hn2 : needs (wrL (allP [([107], v)])).length ≤ 2 := by unfold needs; omega
  unfold refC
  rw [if_neg (fun h => h hR), if_neg (by simp), hw]
  split
  · exact ⟨rfl, rfl, rfl, Nat.le_refl _, Nat.le_succ _⟩
  · rw [if_neg (by omega)]
    exact ⟨rfl, rfl, rfl, Nat.le_succ _, Nat.le_refl _⟩
section
variable {PAt : Set_ → Set_ → World → Value → PS → Prop} {SAt : Set_ → Set_ → World → Value → Value → SS → Prop} (HP : Plate PAt) (HS : Store PAt SAt)
include HS in
/-- A second store is opened on the plate; nothing is written: both stand. -/
theorem Stg.second {w0 w : World} {p t : Value} {S R S2 R2 : Set_} {s : PS} {G : SS} (h : Stg PAt SAt w0 w p t S R S2 R2 s G) {hf T : Nat} {ps : List (Bs × Bs)} (H : AtRest hf T s ps) (hT : T + 1 < 4294967296) (hh : hf = (s.safe.length - 2) / 2) {G' : SS} (he : openS s hf = (0, some G', s)) :
    Calls Try.prog 7 #[p] w fun e w' => ∃ a, e = .returned (.tuple #[.pointer (some a), .int .i64 0]) ∧ ∃ S' R' S3 R3, Stg PAt SAt w0 w' p t S' R' S2 R2 s G ∧ Stg PAt SAt w0 w' p (.pointer (some a)) S' R' S3 R3 s G' ∧ Aside S w w' := by
  refine (HS.open_ hf T ps h.p H hT hh).mono ?_
  rw [he]
  rintro e w' ⟨v, rfl, S', R', S3, R3, q1, q2, q3, q4, q5, _, q7, q8, q9, q10⟩
  have hst := q5 G' rfl
  obtain ⟨a, rfl⟩ := HS.ptr hst
  have hs := h.b.size
  have h2 : Stg PAt SAt w0 w' p (.pointer (some a)) S' R' S3 R3 s G' := by
    refine ⟨hst, q1, q9, q10, fun k hk => ?_, fun k hk => ?_, h.b.trans (q4.below hs fun k hk => h.ge k (Or.inl hk))⟩
    · rcases hk with hk | hk
      · rcases q2 k hk with h3 | h3
        · exact h.ge k (Or.inl h3)
        · omega
      · rcases q3 k hk with h3 | h3
        · exact h.ge k (Or.inr h3)
        · omega
    · rcases hk with hk | hk
      · rcases q7 k hk with h3 | h3
        · exact h.ge k (Or.inl h3)
        · omega
      · have := q8 k hk; omega
  exact ⟨a, rfl, S', R', S3, R3, h.beside HS h2 q4 q2 q3, h2, q4⟩
end
/-- One byte is written over. -/
theorem Fl.put {w : World} {g n c i : Nat} (h : Fl w (.slice (some ⟨g, 0, none⟩) n c) n) (hi : i < n) (y : UInt8) : (∃ x : UInt8, w.cell? ⟨g, i, none⟩ = some (.int .u8 (x.toNat : Int))) ∧ w.frozen? ⟨g, i, none⟩ = false ∧ Fl (w.setCell ⟨g, i, none⟩ (.int .u8 (y.toNat : Int))) (.slice (some ⟨g, 0, none⟩) n c) n ∧ Aside (fun k => k = g) w (w.setCell ⟨g, i, none⟩ (.int .u8 (y.toNat : Int))) := by
  obtain ⟨m, h1, h2, h3⟩ := h
  have hne : m ≠ [] := by intro e; rw [e] at h1; simp at h1; omega
  obtain ⟨sp', c', e, _, _, hc⟩ := bytes_open h2
  simp only [Value.slice.injEq] at e
  obtain ⟨rfl, _, _⟩ := e
  obtain ⟨g', o', e, _, hcell⟩ := hc hne
  simp only [Option.some.injEq, Addr.mk.injEq, and_true] at e
  obtain ⟨rfl, rfl⟩ := e
  have hc0 := hcell i (by omega)
  have hf0 := h3 g 0 c n rfl i hi
  have hb0 := bytes_pokes h2 i (by omega) y
  simp only [Nat.zero_add] at hc0 hf0 hb0
  refine ⟨⟨_, hc0⟩, hf0, ⟨m.set i y, by rw [List.length_set]; exact h1, hb0, fun g' o' c'' q e j hj => ?_⟩, Aside.of_grown (setCell_grown g i _) fun k e => by simpa using e.symm⟩
  simp only [Value.slice.injEq, Option.some.injEq, Addr.mk.injEq, and_true] at e
  obtain ⟨⟨rfl, rfl⟩, rfl, rfl⟩ := e
  rw [World.frozen?_setCell]
  exact h3 _ _ _ _ rfl j hj
end Go.Proofs.Ytbjgknoipbekoaa
namespace Go.Proofs.Ytbjgknoipbekoaa
open Go.RowKit
/-- A store with these pairs at this generation on a plate of n sectors; the blocks of X are not the plate's own. -/
def TurnAt (PAt : Set_ → Set_ → World → Value → PS → Prop) (SAt : Set_ → Set_ → World → Value → Value → SS → Prop) (n : Nat) (w0 w : World) (p t : Value) (gn k : Nat) (ps : List (Bs × Bs)) (X : Set_) : Prop :=
  ∃ (T : Nat) (s : PS) (G : SS) (r : RS) (S R S2 R2 : Set_), Stg PAt SAt w0 w p t S R S2 R2 s G ∧ Beside T s G r ∧ T ≤ k ∧ s.safe.length = n ∧ G.half = (n - 2) / 2 ∧ G.gen = gn ∧ G.pairs = ps ∧ ∀ j, X j → ¬ S j
section
variable {PAt : Set_ → Set_ → World → Value → PS → Prop} {SAt : Set_ → Set_ → World → Value → Value → SS → Prop} (HP : Plate PAt) (HS : Store PAt SAt)
variable {n gn k : Nat} {w0 w w' : World} {p t : Value} {ps : List (Bs × Bs)} {X : Set_}
include HP HS in
theorem TurnAt.below (h : TurnAt PAt SAt n w0 w p t gn k ps X) (hb : Below w.heap.size w w') : TurnAt PAt SAt n w0 w' p t gn k ps X := by
  obtain ⟨T, s, G, r, S, R, S2, R2, h1, h2⟩ := h
  exact ⟨T, s, G, r, S, R, S2, R2, h1.below HP HS hb, h2⟩
theorem TurnAt.b (h : TurnAt PAt SAt n w0 w p t gn k ps X) : Below w0.heap.size w0 w := by
  obtain ⟨T, s, G, r, S, R, S2, R2, h1, h2⟩ := h
  exact h1.b
include HS in
theorem TurnAt.gen (h : TurnAt PAt SAt n w0 w p t gn k ps X) : Calls Try.prog 12 #[t] w fun e w' => e = .returned (.int .i64 (gn : Int)) ∧ Below w.heap.size w w' := by
  obtain ⟨T, s, G, r, S, R, S2, R2, h1, _, _, _, _, h6, _⟩ := h
  have := HS.gen h1.st
  rw [h6] at this
  exact this
include HS in
theorem TurnAt.get {v : Bs} (h : TurnAt PAt SAt n w0 w p t gn k [([107], v)] X) {x : Value} (hx : BytesAt w x [107]) : Calls Try.prog 9 #[t, x] w fun e w' => ∃ u, e = .returned (.tuple #[u, .bool true]) ∧ OwnB w' w.heap.size u v ∧ Below w.heap.size w w' := by
  obtain ⟨T, s, G, r, S, R, S2, R2, h1, _, _, _, _, _, h7, _⟩ := h
  have := HS.get x [107] h1.st hx (by decide)
  rw [h7, get_single] at this
  exact this
include HS in
theorem TurnAt.keys {v : Bs} (h : TurnAt PAt SAt n w0 w p t gn k [([107], v)] X) : Calls Try.prog 11 #[t, .slice none 0 0] w fun e w' => ∃ sp c, e = .returned (.slice sp 1 c) ∧ Below w.heap.size w w' := by
  obtain ⟨T, s, G, r, S, R, S2, R2, h1, _, _, _, _, _, h7, _⟩ := h
  have := HS.keys (.slice none 0 0) [] h1.st (bytes_nil _) (by simp)
  rw [h7, keys_single] at this
  refine this.mono ?_
  rintro e w' ⟨z, vs, rfl, hz, hb⟩
  have hvl : vs.length = 1 := hz.len
  obtain ⟨u, rfl⟩ : ∃ u, vs = [u] := List.length_eq_one_iff.1 hvl
  obtain ⟨g, o, c, e, _, _, hcell⟩ := ValsAt.cell hz.row (by simp)
  exact ⟨some ⟨g, o, none⟩, c, by rw [e]; rfl, hb⟩
include HP HS in
theorem TurnAt.commit {v : Bs} {z : Value} (h : TurnAt PAt SAt n w0 w p t gn k ps X) (hb : Below w.heap.size w w') (hz : ChsAt (fun j => w.heap.size ≤ j) w' z [⟨[107], v, false⟩]) (hv : v.length ≤ 40) (hp : ps = [] ∨ ∃ u, ps = [([107], u)]) (hn : 6 ≤ n) (hk : k + 1 < 4294967296) (hg : gn < 2147483647) :
    Calls Try.prog 8 #[t, z] w' fun e w'' => e = .returned (.int .i64 0) ∧ (∃ gn', gn ≤ gn' ∧ gn' ≤ gn + 1 ∧ TurnAt PAt SAt n w0 w'' p t gn' (k + 1) [([107], v)] (fun j => w.heap.size ≤ j ∧ j < w'.heap.size)) ∧ Aside (fun j => j < w.heap.size) w' w'' := by
  obtain ⟨T, s, G, r, S, R, S2, R2, h1, h2, h3, h4, h5, h6, h7, h8⟩ := h
  have hold : ∀ j, (S j ∨ R j) ∨ S2 j ∨ R2 j → j < w.heap.size := fun j hj => hj.elim (HP.old h1.p j) (HS.old h1.st j)
  obtain ⟨hc1, hB2⟩ := h2.commit (by omega) (by omega) [⟨[107], v, false⟩]
  obtain ⟨f1, f2, f3, f4, f5⟩ := turn_ref (r := r) hv (by rw [h2.pairs, h7]; exact hp) (by rw [h2.half, h5]; omega)
  rw [f1] at hc1
  have hl := commit_len G s [⟨[107], v, false⟩]
  refine ((h1.below HP HS hb).commit HS hz (fun j hj => ⟨fun h3 => ?_, fun h3 => ?_⟩) (by simp) (by rw [h4]; exact h5) fun _ => ⟨h2.live, by omega⟩).mono ?_
  · have := hold j (Or.inl (Or.inl h3)); omega
  · have := hold j (Or.inr (Or.inl h3)); omega
  · rintro e w'' ⟨rfl, ⟨S', R', S2', R2', g3, g4⟩, g5⟩
    rw [hc1]
    refine ⟨rfl, ⟨(commitS G s [⟨[107], v, false⟩]).2.1.gen, ?_, ?_, T + 1, _, _, _, S', R', S2', R2', g3, hB2, by omega, by rw [hl]; exact h4, ?_, rfl, ?_, fun j hj hS => ?_⟩, g5.mono fun j _ hj => hold j (hj.elim (fun h => Or.inl (Or.inl h)) fun h => Or.inr (Or.inl h))⟩
    · rw [← hB2.gen, ← h6, ← h2.gen]; exact f4
    · rw [← hB2.gen, ← h6, ← h2.gen]; exact f5
    · rw [← hB2.half, f3, h2.half]; exact h5
    · rw [← hB2.pairs]; exact f2
    · rcases g4 j (Or.inl (Or.inl hS)) with h6 | h6
      · have := hold j h6; omega
      · omega
include HS in
theorem TurnAt.second (h : TurnAt PAt SAt n w0 w p t gn k ps X) (hk : k + 1 < 4294967296) :
    Calls Try.prog 7 #[p] w fun e w' => ∃ a, e = .returned (.tuple #[.pointer (some a), .int .i64 0]) ∧ TurnAt PAt SAt n w0 w' p t gn (k + 1) ps none_ ∧ TurnAt PAt SAt n w0 w' p (.pointer (some a)) gn (k + 1) ps none_ ∧ Aside (fun j => ¬ X j) w w' := by
  obtain ⟨T, s, G, r, S, R, S2, R2, h1, h2, h3, h4, h5, h6, h7, h8⟩ := h
  obtain ⟨G3, ho3, hG3, hB3⟩ := h2.again (by omega)
  refine (h1.second HS (T := T) (ps := G.pairs) (Or.inl ⟨_, _, h2.live.on⟩) (by omega) (by rw [h4]; exact h5) ho3).mono ?_
  rintro e w' ⟨a, rfl, S', R', S3, R3, q1, q2, q3⟩
  refine ⟨a, rfl, ⟨T, s, G, r, S', R', S2, R2, q1, h2, by omega, h4, h5, h6, h7, fun _ hj => hj.elim⟩, ⟨T + 1, s, G3, r, S', R', S3, R3, q2, hB3, by omega, h4, by rw [hG3]; exact h5, ?_, ?_, fun _ hj => hj.elim⟩, q3.mono fun j _ hj hx => h8 j hx hj⟩
  · rw [← hB3.gen, h2.gen]; exact h6
  · rw [← hB3.pairs, h2.pairs]; exact h7
include HS in
/-- The first store on a new plate. -/
theorem TurnAt.first {S R : Set_} (h : On PAt w0 w p S R (newS n)) (h4 : 4 ≤ n) (hn : n ≤ 16384) :
    Calls Try.prog 7 #[p] w fun e w' => ∃ a, e = .returned (.tuple #[.pointer (some a), .int .i64 0]) ∧ TurnAt PAt SAt n w0 w' p (.pointer (some a)) 1 1 [] none_ := by
  obtain ⟨G1, s1, ho1, hG1, hB1⟩ := new_opened h4 hn
  have hl1 : s1.safe.length = n := by
    have := open_len (newS n) ((n - 2) / 2)
    rw [ho1] at this
    rw [this]
    exact List.length_replicate
  have hr0 : AtRest ((n - 2) / 2) 0 (newS n) [] := Or.inr ⟨rfl, new_bare (n := n) (by omega) (by omega) (rest_new n 0 0 1 hn (by omega) (by omega) (by omega)).ok rfl rfl rfl⟩
  refine (h.opened_ HS hr0 (by omega) (by rw [show (newS n).safe.length = n from List.length_replicate]) ho1).mono ?_
  rintro e w' ⟨a, rfl, ⟨S', R', S2, R2, h3⟩, _⟩
  exact ⟨a, rfl, 1, s1, G1, _, S', R', S2, R2, h3, hB1, Nat.le_refl _, hl1, hG1, hB1.gen.symm, hB1.pairs.symm, fun _ hj => hj.elim⟩
end
end Go.Proofs.Ytbjgknoipbekoaa
