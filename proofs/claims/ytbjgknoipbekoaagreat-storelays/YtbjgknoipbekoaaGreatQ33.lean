/-
  StoreLays, plain words: the records that a store in memory has, as the document counts them; what stands on its plate.
  The statements' same (layer 14), walked; slices of slices that grow.
  The statements' sectors (layer 14), walked out of the record Plate.
  WalGenerations, walked out of the records Plate and Wal.
  What WalWrites needs: plain words, and what stands in memory.
  The walk of the reference's number, out of sectors.
-/
import Derived.Test.YtbjgknoipbekoaaGreatQ30
import Derived.Test.YtbjgknoipbekoaaGreatQ19
import Derived.Test.YtbjgknoipbekoaaGreatQ4
import Derived.Test.YtbjgknoipbekoaaGreatQ27
import Derived.Test.YtbjgknoipbekoaaGreatQ2
import Derived.Test.YtbjgknoipbekoaaGreatQ3
import Derived.BigQuiet
namespace Go.Proofs.YtbjgknoipbekoaaGreat
open Go.RowKit
theorem ref_used (r : RS) (l : List Ch) : (refC r l).1.used ≤ max r.used r.half := by
  unfold refC
  split
  · exact Nat.le_max_left _ _
  · split
    · exact Nat.le_max_left _ _
    · split
      · rename_i h
        exact Nat.le_trans h.2 (Nat.le_max_right _ _)
      · split
        · exact Nat.le_max_left _ _
        · rename_i h
          show needs _ ≤ _
          omega
theorem ref_gen (r : RS) (l : List Ch) : r.gen ≤ (refC r l).1.gen ∧ (refC r l).1.gen ≤ r.gen + 1 := by
  unfold refC
  split
  · exact ⟨Nat.le_refl _, Nat.le_succ _⟩
  · split
    · exact ⟨Nat.le_refl _, Nat.le_succ _⟩
    · split
      · exact ⟨Nat.le_refl _, Nat.le_succ _⟩
      · split
        · exact ⟨Nat.le_refl _, Nat.le_succ _⟩
        · exact ⟨Nat.le_succ _, Nat.le_refl _⟩
section
variable {PAt : Set_ → Set_ → World → Value → PS → Prop} {SAt : Set_ → Set_ → World → Value → Value → SS → Prop} {n k : Nat} {w0 w : World} {p t : Value} {r : RS} {B : Set_}
theorem SysAt.inb (h : SysAt PAt SAt n w0 w p t r k B) : InB w0 w B := by
  obtain ⟨T, s, G, S, R, S2, R2, h1, h2, h3, h4, h5, h6, h7⟩ := h
  exact h7
end
/-- The records behind a Commit, as the document counts them. -/
def recC (r : RS) (rc : List Bs) (l : List Ch) : List Bs :=
  if (refC r l).2 ≠ 0 ∨ l = [] then rc else if (refC r l).1.gen ≠ r.gen then [wrL (allP (refC r l).1.pairs)] else rc ++ [wrL l]
theorem Beside.recs {T : Nat} {s : PS} {S : SS} {r : RS} (H : Beside T s S r) (hT : T + 1 < 4294967296) (hg : S.gen < 2147483647) (l : List Ch) {rc : List Bs} (hrc : S.log.rs.map (·.1) = rc) : (commitS S s l).2.1.log.rs.map (·.1) = recC r rc l := by
  have hL := H.live
  by_cases hl : RightL l
  rotate_left
  · have e1 : refC r l = (r, 30) := by unfold refC; rw [if_pos hl]
    have e2 : commitS S s l = (30, S, s) := by unfold commitS; rw [H.open_, if_neg (by decide), if_pos hl]
    unfold recC
    rw [e1, e2, if_pos (Or.inl (by simp))]
    exact hrc
  have hn : ¬ ¬ RightL l := fun h => h hl
  by_cases hne : l = []
  · have e2 : commitS S s l = (0, S, s) := by unfold commitS; rw [H.open_, if_neg (by decide), if_neg hn, if_pos hne]
    unfold recC
    rw [e2, if_pos (Or.inr hne)]
    exact hrc
  by_cases hf : FitsL S.log (wrL l)
  · have hf' : (wrL l).length ≤ 65536 ∧ usedR S.log.rs + needs (wrL l).length ≤ S.half := by
      have h1 := hf
      unfold FitsL at h1
      rw [hL.size] at h1
      exact h1
    have e1 : refC r l = (⟨r.half, r.gen, r.used + needs (wrL l).length, withP r.pairs l⟩, 0) := by unfold refC; rw [if_neg hn, if_neg hne, if_pos (by rw [H.used, H.half]; exact hf')]
    obtain ⟨a1, _⟩ := hL.commit hl hf'.1 hf'.2 (Or.inl H.left)
    obtain ⟨_, b2⟩ := append_left hL.li hL.shut hf'.1 (by rw [hL.size]; exact hf'.2) (Or.inl H.left)
    have e2 : commitS S s l = (0, ⟨S.half, S.gen, appendL S.log s (wrL l), withP S.pairs l, false⟩, appendP S.log s (wrL l)) := by unfold commitS; rw [H.open_, if_neg (by decide), if_neg hn, if_neg hne, if_pos hf, a1, if_pos rfl]
    unfold recC
    rw [e1, e2, if_neg (by intro h; exact h.elim (fun h => h rfl) hne), if_neg (fun h => h rfl)]
    show (appendL S.log s (wrL l)).rs.map (·.1) = _
    rw [b2]
    show (S.log.rs ++ [(wrL l, S.log.opening)]).map (·.1) = _
    rw [List.map_append, hrc]
    rfl
  · have hf' : ¬ ((wrL l).length ≤ 65536 ∧ usedR S.log.rs + needs (wrL l).length ≤ S.half) := by
      have h1 := hf
      unfold FitsL at h1
      rw [hL.size] at h1
      exact h1
    have hf2 : ¬ ((wrL l).length ≤ 65536 ∧ r.used + needs (wrL l).length ≤ r.half) := by rw [H.used, H.half]; exact hf'
    by_cases hF : FullS S (wrL (allP (withP S.pairs l)))
    · have hF' : 65536 < (wrL (allP (withP r.pairs l))).length ∨ r.half < needs (wrL (allP (withP r.pairs l))).length := by
        have h1 := hF
        unfold FullS at h1
        rw [H.pairs, H.half]
        omega
      have e1 : refC r l = (r, 52) := by unfold refC; rw [if_neg hn, if_neg hne, if_neg hf2, if_pos hF']
      have e2 : commitS S s l = (52, S, s) := by unfold commitS; rw [H.open_, if_neg (by decide), if_neg hn, if_neg hne, if_neg hf, if_pos hF]
      unfold recC
      rw [e1, e2, if_pos (Or.inl (by simp))]
      exact hrc
    · have hF' : ¬ (65536 < (wrL (allP (withP r.pairs l))).length ∨ r.half < needs (wrL (allP (withP r.pairs l))).length) := by
        rw [H.pairs, H.half]
        exact fun h1 => hF (by unfold FullS; omega)
      have e1 : refC r l = (⟨r.half, r.gen + 1, needs (wrL (allP (withP r.pairs l))).length, withP r.pairs l⟩, 0) := by unfold refC; rw [if_neg hn, if_neg hne, if_neg hf2, if_neg hF']
      have hF2 : ¬ (65536 < (wrL (allP (withP S.pairs l))).length ∨ S.half < needs (wrL (allP (withP S.pairs l))).length) := fun h1 => hF (by unfold FullS; omega)
      have hq : SortedP (withP S.pairs l) := with_sorted _ _ hL.on.sorted
      have hqr : RightP (withP S.pairs l) := with_right hl hL.on.right
      obtain ⟨a1, O, _, _, _, a4, _⟩ := begin_ok hL.on (by omega) hT hq hqr (by omega) (by omega) (Or.inl H.left)
      have e2 : commitS S s l = (0, ⟨S.half, S.gen + 1, (beginR s S.half (S.gen + 1) (wrL (allP (withP S.pairs l)))).2.2, withP S.pairs l, false⟩, (beginR s S.half (S.gen + 1) (wrL (allP (withP S.pairs l)))).1) := by unfold commitS; rw [H.open_, if_neg (by decide), if_neg hn, if_neg hne, if_neg hf, if_neg hF, a1, if_pos rfl]
      unfold recC
      rw [e1, e2, if_neg (by intro h; exact h.elim (fun h => h rfl) hne), if_pos (by show r.gen + 1 ≠ r.gen; omega)]
      show (beginR s S.half (S.gen + 1) (wrL (allP (withP S.pairs l)))).2.2.rs.map (·.1) = _
      rw [a4, H.pairs]
      rfl
theorem Bare.opened_recs {h T : Nat} {s : PS} (H : Bare h 0 T s) (hT : T + 1 < 4294967296) (hlf : s.left < 0) : ∃ S s', openS s h = (0, some S, s') ∧ S.half = h ∧ Beside (T + 1) s' S ⟨h, 1, 1, []⟩ ∧ S.log.rs.map (·.1) = [[]] := by
  have hcon : contentS s = s.safe := by unfold contentS; rw [H.rest.loose]; rfl
  have hm : topM s = 0 := by unfold topM; rw [hcon]; exact H.marks
  have hh := H.h1
  have hn1 : needs (wrL (allP [])).length = 1 := rfl
  have hn : (wrL (allP [])).length = 0 := rfl
  have hq : SortedP [] := List.Pairwise.nil
  have hqr : RightP [] := fun x hx => by cases hx
  obtain ⟨a1, a2⟩ := H.begin_ (qs := []) (by omega) hT hq hqr (by omega) (by omega) (Or.inl hlf)
  obtain ⟨b1, b2⟩ := bare_left (qs := []) H (by omega) hT hq hqr (by omega) (by omega) hlf
  obtain ⟨_, O, _, _, _, c4, _⟩ := bare_ok (qs := []) H (by omega) hT hq hqr (by omega) (by omega) (Or.inl hlf)
  refine ⟨⟨h, 1, (beginR s h 1 (wrL (allP []))).2.2, [], false⟩, (beginR s h 1 (wrL (allP []))).1, ?_, rfl, ⟨a2, b1, rfl, rfl, rfl, b2.symm, rfl⟩, ?_⟩
  · unfold openS
    rw [if_pos hm]
    have a1' : (beginR s h 1 (wrL (allP []))).2.1 = 0 := a1
    rw [a1', if_pos rfl]
  · show (beginR s h (0 + 1) (wrL (allP []))).2.2.rs.map (·.1) = _
    rw [c4]
    rfl
theorem new_opened_recs {n : Nat} (h4 : 4 ≤ n) (hn : n ≤ 16384) : ∃ S s', openS (newS n) ((n - 2) / 2) = (0, some S, s') ∧ S.half = (n - 2) / 2 ∧ Beside 1 s' S ⟨(n - 2) / 2, 1, 1, []⟩ ∧ S.log.rs.map (·.1) = [[]] := by
  have hb : Bare ((n - 2) / 2) 0 0 (newS n) := new_bare (n := n) (by omega) (by omega) (rest_new n 0 0 1 hn (by omega) (by omega) (by omega)).ok rfl rfl rfl
  exact hb.opened_recs (by omega) (show (-1 : Int) < 0 by decide)
/-- A store beside the reference's on its plate, and its log's records. -/
def SysR (PAt : Set_ → Set_ → World → Value → PS → Prop) (SAt : Set_ → Set_ → World → Value → Value → SS → Prop) (n : Nat) (w0 w : World) (p t : Value) (r : RS) (k : Nat) (B : Set_) (rc : List Bs) : Prop :=
  ∃ (T : Nat) (s : PS) (G : SS) (S R S2 R2 : Set_), Stg PAt SAt w0 w p t S R S2 R2 s G ∧ Beside T s G r ∧ T ≤ k ∧ s.safe.length = n ∧ G.half = (n - 2) / 2 ∧ (∀ j, (S j ∨ R j) ∨ S2 j ∨ R2 j → B j) ∧ (∀ j, B j → w0.heap.size ≤ j ∧ j < w.heap.size) ∧ G.log.rs.map (·.1) = rc
section
variable {PAt : Set_ → Set_ → World → Value → PS → Prop} {SAt : Set_ → Set_ → World → Value → Value → SS → Prop} (HP : Plate PAt) (HS : Store PAt SAt)
variable {n k : Nat} {w0 w w' : World} {p t : Value} {r : RS} {B : Set_} {rc : List Bs}
theorem SysR.sys (h : SysR PAt SAt n w0 w p t r k B rc) : SysAt PAt SAt n w0 w p t r k B := by
  obtain ⟨T, s, G, S, R, S2, R2, h1, h2, h3, h4, h5, h6, h7, _⟩ := h
  exact ⟨T, s, G, S, R, S2, R2, h1, h2, h3, h4, h5, h6, h7⟩
include HP HS in
theorem SysR.below (h : SysR PAt SAt n w0 w p t r k B rc) (hb : Below w.heap.size w w') : SysR PAt SAt n w0 w' p t r k B rc := by
  obtain ⟨T, s, G, S, R, S2, R2, h1, h2, h3, h4, h5, h6, h7, h8⟩ := h
  exact ⟨T, s, G, S, R, S2, R2, h1.below HP HS hb, h2, h3, h4, h5, h6, fun j hj => ⟨(h7 j hj).1, Nat.lt_of_lt_of_le (h7 j hj).2 hb.size⟩, h8⟩
include HP HS in
theorem SysR.aside (h : SysR PAt SAt n w0 w p t r k B rc) {T : Set_} (ha : Aside T w w') (hT : ∀ j, T j → ¬ B j) (hg : ∀ j, T j → w0.heap.size ≤ j) : SysR PAt SAt n w0 w' p t r k B rc := by
  obtain ⟨T, s, G, S, R, S2, R2, h1, h2, h3, h4, h5, h6, h7, h8⟩ := h
  exact ⟨T, s, G, S, R, S2, R2, h1.kept HP HS ha (fun j hj => ⟨⟨fun h => hT j hj (h6 j (Or.inl (Or.inl h))), fun h => hT j hj (h6 j (Or.inl (Or.inr h)))⟩, fun h => hT j hj (h6 j (Or.inr (Or.inl h))), fun h => hT j hj (h6 j (Or.inr (Or.inr h)))⟩) hg, h2, h3, h4, h5, h6, fun j hj => ⟨(h7 j hj).1, Nat.lt_of_lt_of_le (h7 j hj).2 ha.size⟩, h8⟩
include HP HS in
theorem SysR.commit {K : Set_} {x : Value} {l : List Ch} (h : SysR PAt SAt n w0 w p t r k B rc) (hx : ChsAt K w x l) (hK : ∀ j, K j → ¬ B j) (hl : l.length ≤ 1000) (hk : k + 1 < 4294967296) (hg : r.gen < 2147483647) :
    Calls Tryz.prog 14 #[t, x] w fun e w' => e = .returned (.int .i64 (refC r l).2) ∧ SysR PAt SAt n w0 w' p t (refC r l).1 (k + 1) (BN B w w') (recC r rc l) ∧ Aside B w w' := by
  obtain ⟨T, s, G, S, R, S2, R2, h1, h2, h3, h4, h5, h6, h7, h8⟩ := h
  obtain ⟨hc1, hB2⟩ := h2.commit (by omega) (by rw [← h2.gen]; exact hg) l
  have hrec := h2.recs (by omega) (by rw [← h2.gen]; exact hg) l h8
  have hlen := commit_len G s l
  refine (h1.commit HS hx (fun j hj => ⟨fun h => hK j hj (h6 j (Or.inl (Or.inl h))), fun h => hK j hj (h6 j (Or.inr (Or.inl h)))⟩) hl (by rw [h4]; exact h5) fun _ => ⟨h2.live, by omega⟩).mono ?_
  rintro e w' ⟨rfl, ⟨S', R', S2', R2', g3, g4⟩, g5⟩
  have hs := g5.size
  have h0 := h1.b.size
  have hge : ∀ j, (S' j ∨ R' j) ∨ S2' j ∨ R2' j → j < w'.heap.size := fun j hj => hj.elim (HP.old g3.p j) (HS.old g3.st j)
  rw [hc1]
  refine ⟨rfl, ⟨T + 1, _, _, S', R', S2', R2', g3, hB2, by omega, by rw [hlen]; exact h4, ?_, fun j hj => ⟨?_, hge j hj⟩, fun j hj => ⟨?_, hj.2⟩, hrec⟩, g5.mono fun j _ hj => h6 j (hj.elim (fun h => Or.inl (Or.inl h)) fun h => Or.inr (Or.inl h))⟩
  · rw [← hB2.half, ref_half, h2.half]; exact h5
  · exact (g4 j hj).elim (fun h => Or.inl (h6 j h)) Or.inr
  · rcases hj.1 with h | h
    · exact (h7 j h).1
    · omega
include HP HS in
theorem SysR.first {S R : Set_} (h : On PAt w0 w p S R (newS n)) (h4 : 4 ≤ n) (hn : n ≤ 16384) :
    Calls Tryz.prog 10 #[p] w fun e w' => ∃ a, e = .returned (.tuple #[.pointer (some a), .int .i64 0]) ∧ ∃ B, SysR PAt SAt n w0 w' p (.pointer (some a)) ⟨(n - 2) / 2, 1, 1, []⟩ 1 B [[]] := by
  obtain ⟨G1, s1, ho1, hG1, hB1, hR1⟩ := new_opened_recs h4 hn
  have hl1 : s1.safe.length = n := by
    have := open_len (newS n) ((n - 2) / 2)
    rw [ho1] at this
    rw [this]
    exact List.length_replicate
  have hr0 : AtRest ((n - 2) / 2) 0 (newS n) [] := Or.inr ⟨rfl, new_bare (n := n) (by omega) (by omega) (rest_new n 0 0 1 hn (by omega) (by omega) (by omega)).ok rfl rfl rfl⟩
  refine (HS.open_ _ _ _ h.p hr0 (by omega) (by rw [show (newS n).safe.length = n from List.length_replicate])).mono ?_
  rw [ho1]
  rintro e w' ⟨v, rfl, S', R', S2, R2, q1, q2, q3, q4, q5, _, q7, q8, q9, q10⟩
  have hst := q5 G1 rfl
  obtain ⟨a, rfl⟩ := HS.ptr hst
  have hs := h.b.size
  have hall : ∀ j, (S' j ∨ R' j) ∨ S2 j ∨ R2 j → (S j ∨ R j) ∨ w.heap.size ≤ j := fun j hj => by
    rcases hj with (hj | hj) | hj | hj
    · exact (q2 j hj).elim (fun h => Or.inl (Or.inl h)) Or.inr
    · exact (q3 j hj).elim (fun h => Or.inl (Or.inr h)) Or.inr
    · exact (q7 j hj).elim (fun h => Or.inl (Or.inl h)) Or.inr
    · exact Or.inr (q8 j hj)
  have hge : ∀ j, (S j ∨ R j) ∨ w.heap.size ≤ j → w0.heap.size ≤ j := fun j hj => hj.elim (h.ge j) fun h => by omega
  have hold : ∀ j, (S' j ∨ R' j) ∨ S2 j ∨ R2 j → j < w'.heap.size := fun j hj => hj.elim (HP.old q1 j) (HS.old hst j)
  exact ⟨a, rfl, fun j => (S' j ∨ R' j) ∨ S2 j ∨ R2 j, ⟨1, s1, G1, S', R', S2, R2, ⟨hst, q1, q9, q10, fun j hj => hge j (hall j (Or.inl hj)), fun j hj => hge j (hall j (Or.inr hj)), h.b.trans (q4.below hs fun j hj => h.ge j (Or.inl hj))⟩, hB1, Nat.le_refl _, hl1, hG1, fun j hj => hj, fun j hj => ⟨hge j (hall j hj), hold j hj⟩, hR1⟩⟩
include HP HS in
/-- What stands on the plate: its sectors, what a Read tells, the generation's log and its mark. -/
theorem SysR.lays (h : SysR PAt SAt n w0 w p t r k B rc) : ∃ (L : List Bs) (rs : List (Bs × Nat)), L.length = n ∧ (∀ x ∈ L, x.length = 64) ∧ r.half = (n - 2) / 2 ∧ 1 ≤ r.gen ∧ r.gen < 2147483648 ∧ 2 + 2 * r.half ≤ n ∧ Stands r.gen (W.partOf L (fromG r.half r.gen) r.half) 1 1 rs ∧ rs.map (·.1) = rc ∧ L.getD (r.gen % 2) [] = markB r.gen ∧
    ∀ W, Below w.heap.size w W → ∀ i : Nat, i < n → Calls Tryz.prog 28 #[p, .int .i64 (i : Int)] W fun e w' => ∃ v, e = .returned (.tuple #[v, .int .i64 0]) ∧ OwnA w' W.heap.size v (L.getD i []) ∧ Below W.heap.size W w' := by
  obtain ⟨T, s, G, S, R, S2, R2, h1, h2, h3, h4, h5, h6, h7, h8⟩ := h
  have hL := h2.live
  have hO := hL.on
  have hok := hO.rest.ok
  have hm := hO.mark
  have hg0 := hO.g0
  refine ⟨s.safe, G.log.rs, h4, hok.safe, by rw [h2.half]; exact h5, by rw [h2.gen]; exact hO.g0, by rw [h2.gen]; exact hO.g1, by rw [h2.half, ← h4]; exact hO.fit, by rw [h2.half, h2.gen]; exact hO.rest.st, h8, ?_, ?_⟩
  · rw [h2.gen]
    unfold marksG at hm
    split at hm
    · rename_i hc
      have h9 := hc.2
      rw [hm] at h9
      exact h9
    · omega
  · intro W hW i hi
    have hp := (h1.below HP HS hW).p
    refine (HP.read (i : Int) hp (by rw [hO.rest.loose]; exact Nat.zero_le _) (by omega) (by have := hok.few; omega)).mono ?_
    have hr : rightAt s (i : Int) = true := by
      unfold rightAt
      simp
      omega
    have e1 : readE s (i : Int) = 0 := by unfold readE; rw [hO.rest.down, hr]; rfl
    have e2 : readB s (i : Int) = s.safe.getD i [] := by unfold readB; rw [hO.rest.down, hr, hO.rest.loose]; rfl
    rw [e1, e2]
    exact fun e w' h => h
end
end Go.Proofs.YtbjgknoipbekoaaGreat
namespace Go.Proofs.YtbjgknoipbekoaaGreat
open Go.RowKit
theorem ListsAt.lists {B : Nat} {w : World} {x : Value} {vs : List Value} {l : List Bs} (h : ListsAt B w x vs l) : BLists w x l := ⟨vs, h.len, h.row, fun i v b h1 h2 => (h.each i v b h1 h2).1⟩
theorem take_same {la lb : List Bs} {i : Nat} (h : la.take i = lb.take i) {a b : Bs} (ha : la[i]? = some a) (hb : lb[i]? = some b) (e : a = b) : la.take (i + 1) = lb.take (i + 1) := by rw [List.take_add_one, List.take_add_one, h, ha, hb, e]
/-- A slice of slices of bytes of one's own, which grows; its elements lie elsewhere. -/
structure GrowAt (w : World) (base : Nat) (x : Value) (l : List Bs) : Prop where
  lists : ∃ vs : List Value, vs.length = l.length ∧ OwnV 23 w base x vs ∧ ∀ (i : Nat) (v : Value) (b : Bs), vs[i]? = some v → l[i]? = some b → BytesAt w v b ∧ ∀ k, b ≠ [] → v.ownBlock = some k → k < base
theorem GrowAt.read {w : World} {base : Nat} {x : Value} {l : List Bs} (h : GrowAt w base x l) : BLists w x l := by
  obtain ⟨vs, h1, h2, h3⟩ := h.lists
  exact ⟨vs, h1, h2.vals, fun i v b e1 e2 => (h3 i v b e1 e2).1⟩
theorem GrowAt.form {w : World} {base : Nat} {x : Value} {l : List Bs} (h : GrowAt w base x l) : ∃ s c, x = .slice s l.length c := h.read.form
theorem GrowAt.aside {S : Set_} {a b : World} {base : Nat} {x : Value} {l : List Bs} (h : GrowAt a base x l) (hb : Aside S a b) (hx : ∀ k, x.ownBlock = some k → ¬ S k) (hS : ∀ k, S k → base ≤ k) : GrowAt b base x l := by
  obtain ⟨vs, h1, h2, h3⟩ := h.lists
  refine ⟨⟨vs, h1, h2.aside hb hx, fun i v c e1 e2 => ?_⟩⟩
  obtain ⟨h4, h5⟩ := h3 i v c e1 e2
  refine ⟨ValsAt.beside h4 hb fun hne k hk hSk => ?_, h5⟩
  have := h5 k (by intro e; rw [e] at hne; simp at hne) hk
  have := hS k hSk
  omega
theorem GrowAt.below {a b : World} {base : Nat} {x : Value} {l : List Bs} (h : GrowAt a base x l) (hb : Below a.heap.size a b) : GrowAt b base x l := h.aside (S := none_) (Aside.of_below hb) (fun _ _ h => h) fun _ h => h.elim
theorem GrowAt.lt {w : World} {base : Nat} {x : Value} {l : List Bs} (h : GrowAt w base x l) : ∀ k, x.ownBlock = some k → base ≤ k ∧ k < w.heap.size := by
  obtain ⟨vs, h1, h2, _⟩ := h.lists
  exact World.ownsRow.lt h2
end Go.Proofs.YtbjgknoipbekoaaGreat
namespace Go.Proofs.YtbjgknoipbekoaaGreat
open Go.RowKit
/-- What stands in the loop of sectors. -/
structure SeI (l : List Bs) (w1 wr : World) (ov : Value) (i : Nat) (vs : List Value) : Prop where
  len : vs.length = i
  own : OwnV 23 wr w1.heap.size ov vs
  each : ∀ (k : Nat) (v : Value) (b : Bs), vs[k]? = some v → l[k]? = some b → BytesAt wr v b ∧ ∀ q, b ≠ [] → v.ownBlock = some q → ov.ownBlock ≠ some q ∧ q < wr.heap.size
  b : Below w1.heap.size w1 wr
theorem SeI.next {l : List Bs} {w1 wr w3 w5 : World} {ov v' s : Value} {i : Nat} {vs : List Value} {T : TypeId} {b : Bs} (h : SeI l w1 wr ov i vs) (hb : l[i]? = some b) (hs : OwnA w3 wr.heap.size s b) (hb3 : Below wr.heap.size wr w3)
    (ho : OwnV 23 w5 w1.heap.size v' (vs ++ [s])) (hg : (w3.alloc (.cells #[s] T)).grownBy w5 ov.ownBlock) (hor : v'.ownBlock = ov.ownBlock ∨ v'.ownBlock = some (w3.alloc (.cells #[s] T)).heap.size) : SeI l w1 w5 v' (i + 1) (vs ++ [s]) := by
  have hb4 : Below wr.heap.size wr (w3.alloc (.cells #[s] T)) := hb3.alloc hb3.size _
  have hs4 : (w3.alloc (.cells #[s] T)).heap.size = w3.heap.size + 1 := by simp
  have hb34 : Below w3.heap.size w3 (w3.alloc (.cells #[s] T)) := (Below.refl _ _).alloc (Nat.le_refl _) _
  obtain ⟨w4, hw4⟩ : ∃ x, w3.alloc (.cells #[s] T) = x := ⟨_, rfl⟩
  rw [hw4] at hg hor hb4 hs4 hb34
  have hlt : ∀ q, ov.ownBlock = some q → q < wr.heap.size := fun q hq => (World.ownsRow.lt h.own q hq).2
  have hA : Aside (fun k => ov.ownBlock = some k) w4 w5 := Aside.of_grown hg fun k hk => hk
  have hsz := hb3.size
  have h5 := hg.size
  have hap : ∀ q, q < w4.heap.size → ov.ownBlock ≠ some q → v'.ownBlock ≠ some q := fun q hq hn e => by
    rcases hor with h1 | h1
    · exact hn (h1 ▸ e)
    · rw [h1] at e; simp only [Option.some.injEq] at e; omega
  have hsb : ∀ q, s.ownBlock = some q → wr.heap.size ≤ q ∧ q < w3.heap.size := fun q hq => by obtain ⟨e, hs⟩ := hs; exact World.ownsRow.lt hs q hq
  refine ⟨by rw [List.length_append, h.len]; rfl, ho, fun k v c hv hc => ?_, ?_⟩
  · by_cases hk : k < vs.length
    · rw [List.getElem?_append_left hk] at hv
      obtain ⟨e1, e2⟩ := h.each k v c hv hc
      refine ⟨ValsAt.beside (e1.below hb4) hA fun hne q hq hS => (e2 q (by intro e; rw [e] at hne; simp at hne) hq).1 hS, fun q hne hq => ?_⟩
      have := (e2 q hne hq).2
      have := hb4.size
      exact ⟨hap q (by omega) (e2 q hne hq).1, by omega⟩
    · rw [List.getElem?_append_right (by omega)] at hv
      match hkk : k - vs.length, hv with
      | 0, hv =>
        simp only [List.getElem?_cons_zero, Option.some.injEq] at hv
        subst hv
        have hki : k = i := by have := h.len; omega
        subst hki
        rw [hb] at hc
        have := Option.some.inj hc
        subst this
        refine ⟨(hs.bytes.below hb34).aside hA fun q hq hS => ?_, fun q _ hq => ?_⟩
        · have := hlt q hS; have := (hsb q hq).1; omega
        · have h1 := hsb q hq
          exact ⟨hap q (by omega) (fun e => by have := hlt q e; omega), by omega⟩
      | j + 1, hv => simp at hv
  · have h1 : Below w1.heap.size w1 w4 := h.b.trans (hb4.mono h.b.size)
    exact h1.trans (hA.below (Nat.le_trans h.b.size hb4.size) fun k hk => (World.ownsRow.lt h.own k hk).1)
section
variable {PAt : Set_ → Set_ → World → Value → PS → Prop} (HP : Plate PAt)
end
end Go.Proofs.YtbjgknoipbekoaaGreat
namespace Go.Proofs.YtbjgknoipbekoaaGreat
open Go.RowKit
/-- No sector bears a generation above G. -/
def GenB (G : Nat) (l : List Bs) : Prop := ∀ x ∈ l, x.length = 64 ∧ genF x ≤ G
theorem GenB.mono {G G' : Nat} {l : List Bs} (h : GenB G l) (hG : G ≤ G') : GenB G' l := fun x hx => ⟨(h x hx).1, Nat.le_trans (h x hx).2 hG⟩
theorem append_safe {L : LS} {s : PS} {b : Bs} (h : LogI L s) (hs : L.shut = false) (hl : s.left < 0) (hb : b.length ≤ 65536) (hr : usedR L.rs + needs b.length ≤ L.size) : (appendP L s b).safe = applyL s.safe (W.placed (L.start + usedR L.rs) (nextS L b)) := by
  have hlen : (nextS L b).length = needs b.length := rec_len _ _ _ _
  have hfit := h.fit
  have hput : putL L s b = (⟨applyL s.safe (s.loose ++ W.placed (L.start + usedR L.rs) (nextS L b)), [], W.leftBy s.left (needs b.length + 1), false⟩, 0) := by
    unfold putL
    rw [W.put_ok h.down (Or.inl hl) (next_64 L b) (by rw [hlen]; omega), hlen]
  rw [h.loose, List.nil_append] at hput
  unfold appendP
  rw [hs, hput, if_neg (by decide), if_neg (by omega), if_neg (by omega)]
theorem append_gen {L : LS} {s : PS} {b : Bs} {G : Nat} (h : LogI L s) (hs : L.shut = false) (hl : s.left < 0) (hb : b.length ≤ 65536) (hr : usedR L.rs + needs b.length ≤ L.size) (hG : L.gen ≤ G) (hB : GenB G (W.partOf s.safe L.start L.size)) : GenB G (W.partOf (appendP L s b).safe L.start L.size) := by
  have hlen : (nextS L b).length = needs b.length := rec_len _ _ _ _
  rw [append_safe h hs hl hb hr, W.sync_part h.fit (by rw [hlen]; omega)]
  intro x hx
  rcases List.mem_append.1 hx with hx | hx
  · exact hB x (List.mem_of_mem_take hx)
  · obtain ⟨i, hi⟩ := List.getElem?_of_mem hx
    have hlt : i < ((W.partOf s.safe L.start L.size).drop (usedR L.rs)).length := by
      have := (List.getElem?_eq_some_iff.1 hi).1
      rwa [mix_len] at this
    by_cases hc : i < (nextS L b).length
    · rw [mix_new hlt hc rfl] at hi
      rw [hlen] at hc
      unfold nextS at hi
      rw [rec_at _ _ _ _ hc] at hi
      have := Option.some.inj hi
      subst this
      have hcn := h.count
      have hgn := h.gen
      exact ⟨part_len _ _ _ hc, by rw [(part_fields (by omega) h.op (by omega) hb hc).1]; exact hG⟩
    · rw [mix_old hlt (by omega)] at hi
      exact hB x (List.mem_of_mem_drop (List.mem_of_getElem? hi))
theorem append_length {L : LS} {s : PS} {b : Bs} (h : LogI L s) (hs : L.shut = false) (hl : s.left < 0) (hb : b.length ≤ 65536) (hr : usedR L.rs + needs b.length ≤ L.size) : (appendP L s b).safe.length = s.safe.length := by rw [append_safe h hs hl hb hr, apply_len]
/-- A slice of slices of slices of bytes. -/
structure LLAt (w : World) (x : Value) (vs : List Value) (ls : List (List Bs)) : Prop where
  row : ValsAt w x vs
  len : vs.length = ls.length
  each : ∀ (i : Nat) (v : Value) (l : List Bs), vs[i]? = some v → ls[i]? = some l → BLists w v l
theorem BLists.old {w : World} {s : Option Addr} {n c : Nat} {l : List Bs} (h : BLists w (.slice s n c) l) {i : Nat} {b : Bs} (hb : l[i]? = some b) : ∃ g o v, s = some ⟨g, o, none⟩ ∧ w.cell? ⟨g, o + i, none⟩ = some v ∧ BytesAt w v b ∧ ∀ k, b ≠ [] → v.ownBlock = some k → k < w.heap.size := by
  obtain ⟨g, o, v, h1, h2, h3⟩ := h.at hb
  exact ⟨g, o, v, h1, h2, h3, fun k hne hk => ValsAt.old h3 (by simpa using hne) k hk⟩
/-- Two logs side by side, as plain words. -/
structure GnI (g sz : Nat) (s : PS) (L : LS) (want : List Bs) : Prop where
  log : LogI L s
  shut : L.shut = false
  gen : L.gen = g + 1
  start : L.start = 2
  size : L.size = sz
  rs : L.rs.map (·.1) = want
  gb : GenB (g + 1) (W.partOf s.safe 2 sz)
  left : s.left < 0
  len : s.safe.length = 64
  op : L.opening = 1
theorem GnI.yes {g sz : Nat} {s : PS} {L : LS} {want : List Bs} {b : Bs} (h : GnI g sz s L want) (hb : b.length ≤ 65536) (hr : usedR L.rs + needs b.length ≤ sz) : appendE L s b = 0 ∧ GnI g sz (appendP L s b) (appendL L s b) (want ++ [b]) := by
  have hr' : usedR L.rs + needs b.length ≤ L.size := by rw [h.size]; exact hr
  obtain ⟨e1, e2, e3, e4⟩ := append_yes h.log h.shut h.left hb hr'
  refine ⟨e1, ⟨e2, by rw [e3], by rw [e3]; exact h.gen, by rw [e3]; exact h.start, by rw [e3]; exact h.size, ?_, ?_, e4, by rw [append_length h.log h.shut h.left hb hr']; exact h.len, by rw [e3]; exact h.op⟩⟩
  · rw [e3, List.map_append, h.rs]; rfl
  · have := append_gen (G := g + 1) h.log h.shut h.left hb hr' (by rw [h.gen]; exact Nat.le_refl _) (by rw [h.start, h.size]; exact h.gb)
    rwa [h.start, h.size] at this
end Go.Proofs.YtbjgknoipbekoaaGreat
namespace Go.Proofs.YtbjgknoipbekoaaGreat
open Go.RowKit
theorem mix_all {new old : List Bs} (h : new.length ≤ old.length) : mixS (fun _ => true) new old = new ++ old.drop new.length := by
  refine List.ext_getElem? fun i => ?_
  by_cases hi : i < old.length
  · by_cases hn : i < new.length
    · rw [mix_new hi hn rfl, List.getElem?_append_left hn]
    · rw [mix_old hi (by omega), List.getElem?_append_right (by omega), List.getElem?_drop, show new.length + (i - new.length) = i by omega]
  · rw [List.getElem?_eq_none (by rw [mix_len]; omega), List.getElem?_eq_none]
    rw [List.length_append, List.length_drop]
    omega
/-- A log whose sectors hold just these, and noughts behind them. -/
structure WI (g sz : Nat) (s : PS) (L : LS) (want : List Bs) (n : Nat) : Prop where
  log : LogI L s
  shut : L.shut = false
  gen : L.gen = g
  start : L.start = 3
  size : L.size = sz
  op : L.opening = 1
  count : L.rs.length = n
  used : usedR L.rs = want.length
  left : s.left < 0
  len : s.safe.length = 128
  part : W.partOf s.safe 3 sz = want ++ List.replicate (sz - want.length) zeros
theorem WI.fit {g sz n : Nat} {s : PS} {L : LS} {want : List Bs} (h : WI g sz s L want n) : want.length ≤ sz ∧ n ≤ sz := by
  have h1 := used_le h.log.st
  rw [W.partOf_len h.log.fit, h.size] at h1
  have := few_used L.rs
  rw [h.used] at h1 this
  rw [h.count] at this
  omega
theorem WI.yes {g sz n : Nat} {s : PS} {L : LS} {want : List Bs} {b : Bs} (h : WI g sz s L want n) (hb : b.length ≤ 65536) (hr : want.length + needs b.length ≤ sz) : appendE L s b = 0 ∧ WI g sz (appendP L s b) (appendL L s b) (want ++ recS b g 1 (n + 1)) (n + 1) := by
  have hr' : usedR L.rs + needs b.length ≤ L.size := by rw [h.size, h.used]; exact hr
  obtain ⟨e1, e2, e3, e4⟩ := append_yes h.log h.shut h.left hb hr'
  have hlen : (nextS L b).length = needs b.length := rec_len _ _ _ _
  have hnx : nextS L b = recS b g 1 (n + 1) := by unfold nextS; rw [h.gen, h.op, h.count]
  refine ⟨e1, ⟨e2, by rw [e3], by rw [e3]; exact h.gen, by rw [e3]; exact h.start, by rw [e3]; exact h.size, by rw [e3]; exact h.op, by rw [e3, List.length_append, h.count]; rfl, ?_, e4, by rw [append_length h.log h.shut h.left hb hr']; exact h.len, ?_⟩⟩
  · rw [e3, used_app, h.used, List.length_append, rec_len]
  · have hfit : 3 + sz ≤ s.safe.length := by have := h.log.fit; rw [h.start, h.size] at this; exact this
    have hp := h.part
    rw [append_safe h.log h.shut h.left hb hr', h.start, h.used, W.sync_part hfit (by rw [hlen]; exact hr), hp, List.take_left, List.drop_left, mix_all (by rw [hlen, List.length_replicate]; omega), hlen, hnx, List.drop_replicate, List.length_append, rec_len, List.append_assoc, show sz - want.length - needs b.length = sz - (want.length + needs b.length) by omega]
/-- The slice of sectors that is wanted. -/
structure WtAt (S R S2 R2 : Set_) (wr : World) (base : Nat) (wv : Value) (vs : List Value) (l : List Bs) : Prop where
  own : OwnV 23 wr base wv vs
  len : vs.length = l.length
  each : ∀ (i : Nat) (v : Value) (b : Bs), vs[i]? = some v → l[i]? = some b → BytesAt wr v b ∧ ∀ k, b ≠ [] → v.ownBlock = some k → Off S R S2 R2 k ∧ wv.ownBlock ≠ some k ∧ k < wr.heap.size
  off : ∀ k, wv.ownBlock = some k → Off S R S2 R2 k
theorem WtAt.lists {S R S2 R2 : Set_} {wr : World} {base : Nat} {wv : Value} {vs : List Value} {l : List Bs} (h : WtAt S R S2 R2 wr base wv vs l) : BLists wr wv l := ⟨vs, h.len, h.own.vals, fun i v b h1 h2 => (h.each i v b h1 h2).1⟩
theorem WtAt.below {S R S2 R2 : Set_} {wr w' : World} {base : Nat} {wv : Value} {vs : List Value} {l : List Bs} (h : WtAt S R S2 R2 wr base wv vs l) (hb : Below wr.heap.size wr w') : WtAt S R S2 R2 w' base wv vs l :=
  ⟨h.own.below hb, h.len, fun i v b h1 h2 => ⟨(h.each i v b h1 h2).1.below hb, fun k hne hk => let q := (h.each i v b h1 h2).2 k hne hk; ⟨q.1, q.2.1, Nat.lt_of_lt_of_le q.2.2 hb.size⟩⟩, h.off⟩
theorem WtAt.app {S R S2 R2 S' R' S2' R2' : Set_} {wr w' : World} {base : Nat} {wv : Value} {vs : List Value} {l : List Bs} (h : WtAt S R S2 R2 wr base wv vs l) (ha : Aside (fun k => S k ∨ S2 k) wr w') (hl : Later S R S2 R2 S' R' S2' R2' wr.heap.size) : WtAt S' R' S2' R2' w' base wv vs l := by
  have hno : ∀ k, Off S R S2 R2 k → ¬ (S k ∨ S2 k) := fun k ho h1 => h1.elim ho.1.1 ho.2.1
  refine ⟨h.own.aside ha fun k hk => hno k (h.off k hk), h.len, fun i v b h1 h2 => ?_, fun k hk => hl k (World.ownsRow.lt h.own k hk).2 (h.off k hk)⟩
  obtain ⟨h3, h4⟩ := h.each i v b h1 h2
  refine ⟨ValsAt.beside h3 ha fun hne k hk => hno k (h4 k (by intro e; rw [e] at hne; simp at hne) hk).1, fun k hne hk => ?_⟩
  obtain ⟨h5, h6, h7⟩ := h4 k hne hk
  exact ⟨hl k h7 h5, h6, Nat.lt_of_lt_of_le h7 ha.size⟩
/-- More are put behind them. -/
theorem WtAt.push {S R S2 R2 : Set_} {wr w' : World} {base : Nat} {wv wv' : Value} {vs us : List Value} {l m : List Bs} (h : WtAt S R S2 R2 wr base wv vs l) (hm : us.length = m.length) (hu : ∀ (i : Nat) (v : Value) (b : Bs), us[i]? = some v → m[i]? = some b → BytesAt wr v b ∧ ∀ k, b ≠ [] → v.ownBlock = some k → Off S R S2 R2 k ∧ wv.ownBlock ≠ some k ∧ k < wr.heap.size)
    (ho : OwnV 23 w' base wv' (vs ++ us)) (hg : Aside (fun k => wv.ownBlock = some k) wr w') (hor : wv'.ownBlock = wv.ownBlock ∨ wv'.ownBlock = some wr.heap.size) (hn : Off S R S2 R2 wr.heap.size) : WtAt S R S2 R2 w' base wv' (vs ++ us) (l ++ m) := by
  have key : ∀ (v : Value) (b : Bs), (BytesAt wr v b ∧ ∀ k, b ≠ [] → v.ownBlock = some k → Off S R S2 R2 k ∧ wv.ownBlock ≠ some k ∧ k < wr.heap.size) → BytesAt w' v b ∧ ∀ k, b ≠ [] → v.ownBlock = some k → Off S R S2 R2 k ∧ wv'.ownBlock ≠ some k ∧ k < w'.heap.size := by
    rintro v b ⟨h3, h4⟩
    refine ⟨ValsAt.beside h3 hg fun hne k hk hq => (h4 k (by intro e; rw [e] at hne; simp at hne) hk).2.1 hq, fun k hne hk => ?_⟩
    obtain ⟨h5, h6, h7⟩ := h4 k hne hk
    refine ⟨h5, fun e => ?_, Nat.lt_of_lt_of_le h7 hg.size⟩
    rcases hor with h8 | h8
    · exact h6 (h8 ▸ e)
    · rw [h8] at e; have := Option.some.inj e; omega
  refine ⟨ho, by simp [h.len, hm], fun i v b h1 h2 => ?_, fun k hk => ?_⟩
  · by_cases hi : i < vs.length
    · rw [List.getElem?_append_left hi] at h1
      rw [List.getElem?_append_left (by have := h.len; omega)] at h2
      exact key v b (h.each i v b h1 h2)
    · rw [List.getElem?_append_right (by omega)] at h1
      rw [List.getElem?_append_right (by have := h.len; omega), ← h.len] at h2
      exact key v b (hu _ v b h1 h2)
  · rcases hor with h8 | h8
    · exact h.off k (h8 ▸ hk)
    · rw [h8] at hk; have := Option.some.inj hk; subst this; exact hn
end Go.Proofs.YtbjgknoipbekoaaGreat
namespace Go.Proofs.YtbjgknoipbekoaaGreat
open Go.RowKit
theorem below_drew5 {B : Nat} {a w : World} (h : Below B a w) (n : Nat) : Below B a (w.drewN n) := h.trans ⟨rfl, rfl, rfl, Nat.le_refl _, fun _ _ => rfl⟩
set_option maxRecDepth 100000 in
set_option maxHeartbeats 1000000 in
theorem number_s (w : World) (x : Value) (b : Bs) (hx : BytesAt w x b) (hl : b.length ≤ 6) : Calls Tryz.prog 57 #[x] w fun e w' => e = .returned (.int .i64 (numB b : Int)) ∧ w' = w := by
  obtain ⟨sp, c, rfl, _, _, hc⟩ := bytes_open hx
  obtain ⟨N, hN⟩ : ∃ N, b.length = N := ⟨_, rfl⟩
  rw [hN] at hc ⊢
  have H1 := hide hc
  have HN := hide hN
  have hN6 : N ≤ 6 := by omega
  have HS := hide (fun i => num_small b i hl)
  obtain ⟨ANS, hA⟩ : ∃ y, numB b = y := ⟨_, rfl⟩
  rw [hA]
  have HA := hide hA
  clear hc hx hN hl hA
  go_enter Tryz.func57, Tryz.ntmps57
  go_wp2
  go_loopw [3, 4] (fun nn ii wr => ∃ i m : Nat, i ≤ N ∧ m < 281474976710656 ∧ nn = .int .i64 (m : Int) ∧ ii = .int .i64 (i : Int) ∧ wr.heap = w.heap ∧ Hid (m = numB (b.take i)) ∧ Hid (wr = w)) (fun _ ii _ => N - (intOf ii).toNat)
  case atStart => exact ⟨0, 0, by omega, by omega, rfl, rfl, rfl, rfl, rfl⟩
  case round =>
    obtain ⟨i, m, hi, hm, rfl, rfl, hh, Hm, Hb⟩ := hrel
    by_cases hlt : i < N
    · have hnb : b ≠ [] := by intro e; have := unhide HN; rw [e] at this; simp at this; omega
      obtain ⟨bb, oo, rfl, _, hcell⟩ := unhide H1 hnb
      have c1 : wr.cell? ⟨bb, oo + i, none⟩ = some (.int .u8 ((b.getD i 0).toNat : Int)) := by rw [← hcell i hlt]; unfold World.cell?; rw [hh]
      have hnx := num_take (b := b) (i := i) (by have := unhide HN; omega)
      have hsm := unhide HS (i + 1)
      rw [hnx, ← unhide Hm] at hsm
      have hlt256 := (b.getD i 0).toNat_lt
      obtain ⟨p, hp⟩ : ∃ p, (b.getD i 0).toNat = p := ⟨_, rfl⟩
      rw [hp] at c1 hnx hsm hlt256
      obtain ⟨m1, hm1⟩ : ∃ m1, 256 * m = m1 := ⟨_, rfl⟩
      obtain ⟨m2, hm2⟩ : ∃ m2, m1 + p = m2 := ⟨_, rfl⟩
      have e1 : (256 : Int) * (m : Int) = (m1 : Int) := by omega
      have e2 : (m1 : Int) + (p : Int) = (m2 : Int) := by omega
      have b1 : m1 ≤ 281474976710656 := by omega
      have b2 : m2 < 281474976710656 := by omega
      have Hm2 : Hid (m2 = numB (b.take (i + 1))) := by show _ = _; rw [hnx, ← unhide Hm, hm1, hm2]
      have f1 : decide ((i : Int) < (N : Int)) = true := by simp; omega
      have f1n : decide (i < N) = true := by simp; omega
      have j0 : (0 : Int) ≤ (i : Int) := by omega
      have j1 : (i : Int) < (N : Int) := by omega
      clear hnb hcell hnx hsm hp hm1 hm2 Hm
      go_wp2
      refine ⟨⟨i + 1, m2, by omega, b2, ?_, ?_, hh, Hm2, Hb⟩, ?_⟩
      · simp
      · simp
      · simp [intOf]; omega
    · obtain rfl : i = N := by omega
      have f1 : decide ((i : Int) < (i : Int)) = false := by simp
      obtain rfl : m = ANS := by rw [unhide Hm, ← unhide HA, List.take_of_length_le (by have := unhide HN; omega)]
      clear Hm
      go_wp2
      go_ret
      exact ⟨rfl, unhide Hb⟩
theorem number_c (w : World) (x : Value) (b : Bs) (hx : BytesAt w x b) (hl : b.length ≤ 6) : Calls Tryz.prog 57 #[x] w fun e w' => e = .returned (.int .i64 (numB b : Int)) ∧ Below w.heap.size w w' :=
  (number_s w x b hx hl).mono fun _ _ h => ⟨h.1, h.2 ▸ Below.refl _ _⟩
end Go.Proofs.YtbjgknoipbekoaaGreat
