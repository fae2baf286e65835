/-
  A feed in plain words: its readers; a feed in memory.
-/
import Derived.Test.YtbblhogdfdpipaaCh17
namespace Go.Proofs.Ytbblhogdfdpipaa
open Go.RowKit Go.MapKept
/-- The readers that ever came; none: one that left. -/
abbrev Rs (α : Type) := List (Option (Bx α))
section
variable {α : Type}
/-- What reader n has. -/
def rd (R : Rs α) (n : Int) : Option (Bx α) := if 1 ≤ n then (R[n.toNat - 1]?).join else none
def live (R : Rs α) : Nat := R.countP (·.isSome)
def tellR (R : Rs α) (x : α) : Rs α := R.map fun o => o.map fun b => b.put x
def setR (R : Rs α) (n : Int) (o : Option (Bx α)) : Rs α := R.set (n.toNat - 1) o
theorem rd_some {R : Rs α} {n : Int} {b : Bx α} (h : rd R n = some b) : 1 ≤ n ∧ n ≤ R.length ∧ R[n.toNat - 1]? = some (some b) := by
  unfold rd at h
  split at h
  · rename_i h1
    have h2 : R[n.toNat - 1]? = some (some b) := by
      cases hr : R[n.toNat - 1]? with
      | none => rw [hr] at h; cases h
      | some o => rw [hr] at h; rw [show o = some b from h]
    have := (List.getElem?_eq_some_iff.1 h2).1
    exact ⟨h1, by omega, h2⟩
  · cases h
theorem rd_at {R : Rs α} {i : Nat} (hi : i < R.length) : rd R ((i : Int) + 1) = R[i] := by
  unfold rd
  rw [if_pos (by omega), show ((i : Int) + 1).toNat - 1 = i from by omega, List.getElem?_eq_getElem hi]; rfl
theorem rd_out {R : Rs α} {n : Int} (h : ¬ (1 ≤ n ∧ n ≤ R.length)) : rd R n = none := by
  cases hr : rd R n with
  | none => rfl
  | some b => have := rd_some hr; exact absurd ⟨this.1, this.2.1⟩ h
theorem rd_ext {R R' : Rs α} (hl : R.length = R'.length) (h : ∀ n, rd R n = rd R' n) : R = R' := by
  refine List.ext_getElem hl fun i h1 h2 => ?_
  have := h ((i : Int) + 1)
  rwa [rd_at h1, rd_at h2] at this
theorem rd_join {R : Rs α} {b : Bx α} (n : Int) : rd (R ++ [some b]) n = if n = R.length + 1 then some b else rd R n := by
  by_cases h : n = R.length + 1
  · rw [if_pos h, h]
    unfold rd
    rw [if_pos (by omega), show ((R.length : Int) + 1).toNat - 1 = R.length from by omega, List.getElem?_append_right (Nat.le_refl _), Nat.sub_self]; rfl
  · rw [if_neg h]
    by_cases h1 : 1 ≤ n ∧ n ≤ R.length
    · unfold rd
      rw [if_pos h1.1, if_pos h1.1, List.getElem?_append_left (by omega)]
    · rw [rd_out h1, rd_out (by simp; omega)]
theorem rd_set {R : Rs α} {n : Int} {b : Bx α} (h : rd R n = some b) (o : Option (Bx α)) (m : Int) : rd (setR R n o) m = if m = n then o else rd R m := by
  obtain ⟨h1, h2, h3⟩ := rd_some h
  unfold setR rd
  by_cases e : m = n
  · subst e
    rw [if_pos h1, if_pos rfl, List.getElem?_set_self (by omega)]; rfl
  · rw [if_neg e]
    split
    · rw [List.getElem?_set_ne (by omega)]
    · rfl
theorem rd_tell {R : Rs α} (x : α) (n : Int) : rd (tellR R x) n = (rd R n).map fun b => b.put x := by
  unfold rd tellR
  split
  · rw [List.getElem?_map]
    cases R[n.toNat - 1]? with
    | none => rfl
    | some o => rfl
  · rfl
theorem len_set {R : Rs α} (n : Int) (o : Option (Bx α)) : (setR R n o).length = R.length := List.length_set
theorem len_tell {R : Rs α} (x : α) : (tellR R x).length = R.length := List.length_map _
theorem live_join {R : Rs α} (b : Bx α) : live (R ++ [some b]) = live R + 1 := by simp [live, List.countP_append]
theorem live_tell {R : Rs α} (x : α) : live (tellR R x) = live R := by
  unfold live tellR
  rw [List.countP_map]
  congr 1
  funext o
  simp
theorem live_some {R : Rs α} {n : Int} {b b' : Bx α} (h : rd R n = some b) : live (setR R n (some b')) = live R := by
  obtain ⟨h1, h2, h3⟩ := rd_some h
  have hl := (List.getElem?_eq_some_iff.1 h3).1
  have he := (List.getElem?_eq_some_iff.1 h3).2
  unfold live setR
  rw [List.countP_set hl, he]
  have : 0 < R.countP (fun o => o.isSome) := List.countP_pos_iff.2 ⟨some b, he ▸ List.getElem_mem hl, rfl⟩
  simp; omega
theorem live_none {R : Rs α} {n : Int} {b : Bx α} (h : rd R n = some b) : live (setR R n none) = live R - 1 := by
  obtain ⟨h1, h2, h3⟩ := rd_some h
  have hl := (List.getElem?_eq_some_iff.1 h3).1
  have he := (List.getElem?_eq_some_iff.1 h3).2
  unfold live setR
  rw [List.countP_set hl, he]
  simp
/-- A feed in memory: its block P, its map bm; each reader's box Q, channel C. -/
structure FeedC (K : FK α) (X : Set_) (w : World) (P bm : Nat) (Q C : Nat → Nat) (R : Rs α) : Prop where
  blk : RowAt K.tf w P [] [.map (some bm), .int .i64 (R.length : Int)]
  map : IMAt w bm (fun k => (rd R k).map fun _ => pt (Q k.toNat)) (live R)
  box : ∀ n b, rd R n = some b → BoxAt K X w (Q n.toNat) (C n.toNat) b
  qq : ∀ m n, rd R m ≠ none → rd R n ≠ none → Q m.toNat = Q n.toNat → m = n
  cc : ∀ m n, rd R m ≠ none → rd R n ≠ none → C m.toNat = C n.toNat → m = n
  xp : X P
  xm : X bm
  old : ∀ k, X k → k < w.heap.size
/-- What Join, Leave, Take make of the readers and answer. -/
def joinR (R : Rs α) (n : Int) : Rs α := if 1 ≤ n ∧ n ≤ 256 then R ++ [some ⟨n.toNat, 0, []⟩] else R
def joinN (R : Rs α) (n : Int) : Int := if 1 ≤ n ∧ n ≤ 256 then R.length + 1 else 0
def leaveR (R : Rs α) (n : Int) : Rs α := if (rd R n).isSome then setR R n none else R
def takeR (R : Rs α) (n : Int) : Rs α := match rd R n with
  | some b => setR R n (some b.pop)
  | none => R
def takeV (R : Rs α) (n : Int) : Option α := match rd R n with
  | some b => b.list.head?
  | none => none
def waitsN (R : Rs α) (n : Int) : Nat := match rd R n with
  | some b => b.list.length
  | none => 0
def lostN (R : Rs α) (n : Int) : Nat := match rd R n with
  | some b => b.lost
  | none => 0
variable {K : FK α}
/-- A feed that a pointer leads to. -/
def FeedAt (K : FK α) (X : Set_) (w : World) (p : Value) (R : Rs α) : Prop := ∃ P bm Q C, p = pt P ∧ FeedC K X w P bm Q C R
theorem FeedC.f0 {X : Set_} {w : World} {P bm : Nat} {Q C : Nat → Nat} {R : Rs α} (h : FeedC K X w P bm Q C R) : w.cell? ⟨P, 0, none⟩ = some (.map (some bm)) := h.blk.cell 0 (by simp)
theorem FeedC.f1 {X : Set_} {w : World} {P bm : Nat} {Q C : Nat → Nat} {R : Rs α} (h : FeedC K X w P bm Q C R) : w.cell? ⟨P, 1, none⟩ = some (.int .i64 (R.length : Int)) := h.blk.cell 1 (by simp)
theorem FeedC.aside {X S : Set_} {a b : World} {P bm : Nat} {Q C : Nat → Nat} {R : Rs α} (h : FeedC K X a P bm Q C R) (hb : Aside S a b) (hS : ∀ k, S k → ¬ X k) : FeedC K X b P bm Q C R where
  blk := by
    unfold RowAt
    rw [hb.block P h.blk.lt fun hs => hS P hs h.xp]; exact h.blk
  map := h.map.aside hb fun hs => hS bm hs h.xm
  box := fun n b hn => (h.box n b hn).aside hb hS
  qq := h.qq
  cc := h.cc
  xp := h.xp
  xm := h.xm
  old := fun k hk => Nat.lt_of_lt_of_le (h.old k hk) hb.size
theorem FeedC.mono {X Y : Set_} {w : World} {P bm : Nat} {Q C : Nat → Nat} {R : Rs α} (h : FeedC K X w P bm Q C R) (hX : ∀ k, X k → Y k) (hY : ∀ k, Y k → k < w.heap.size) : FeedC K Y w P bm Q C R :=
  ⟨h.blk, h.map, fun n b hn => (h.box n b hn).mono hX, h.qq, h.cc, hX _ h.xp, hX _ h.xm, hY⟩
theorem FeedC.below {X : Set_} {a b : World} {P bm : Nat} {Q C : Nat → Nat} {R : Rs α} (h : FeedC K X a P bm Q C R) (hb : Below a.heap.size a b) : FeedC K X b P bm Q C R :=
  h.aside (S := none_) (Aside.of_below hb) fun _ h => h.elim
theorem map_no_cell {w : World} {B c : Nat} {f : Int → Option Value} (h : IMAt w B f c) (i : Nat) : w.cell? ⟨B, i, none⟩ = none := by
  obtain ⟨es, k, h1, _⟩ := h
  simp [World.cell?, h1]
/-- The feed's block is no box's and no channel; nor is its map. -/
theorem FeedC.apart {X : Set_} {w : World} {P bm : Nat} {Q C : Nat → Nat} {R : Rs α} (h : FeedC K X w P bm Q C R) {q c : Nat} {b : Bx α} (hb : BoxAt K X w q c b) : P ≠ q ∧ P ≠ c ∧ bm ≠ q ∧ bm ≠ c := by
  obtain ⟨buf, s, r, hc, _⟩ := hb.ch
  obtain ⟨es, k, hm, _⟩ := h.map
  have hq := hb.k0
  have hp := h.f0
  refine ⟨?_, ?_, ?_, ?_⟩
  · rintro rfl
    rw [hp] at hq
    cases hq
  · rintro rfl
    rw [chan_no_cell hc] at hp
    cases hp
  · rintro rfl
    rw [map_no_cell h.map] at hq
    cases hq
  · rintro rfl
    rw [hm] at hc
    cases hc
theorem FeedC.pm {X : Set_} {w : World} {P bm : Nat} {Q C : Nat → Nat} {R : Rs α} (h : FeedC K X w P bm Q C R) : P ≠ bm := by
  rintro rfl
  have := h.f0
  rw [map_no_cell h.map] at this
  cases this
/-- Another box is untouched. -/
theorem BoxAt.other (Pl : Plain K) {X : Set_} {w w' : World} {q c q' c' : Nat} {b b' : Bx α} (h : BoxAt K X w q c b) (h' : BoxAt K X w q' c' b') (ha : Aside (two_ q c) w w') (hq : q' ≠ q) (hc : c' ≠ c) : BoxAt K X w' q' c' b' := by
  obtain ⟨buf, s, r, hch, _⟩ := h.ch
  obtain ⟨buf', s', r', hch', hI'⟩ := h'.ch
  have hq' := h'.k0
  have hq0 := h.k0
  have n1 : ¬ two_ q c q' := by
    rintro (e | rfl)
    · exact hq e
    · rw [chan_no_cell hch] at hq'; cases hq'
  have n2 : ¬ two_ q c c' := by
    rintro (rfl | e)
    · rw [chan_no_cell hch'] at hq0; cases hq0
    · exact hc e
  refine ⟨?_, ⟨buf', s', r', ?_, hI'.but ha (h.loose Pl)⟩, h'.len, h'.pos, h'.few, h'.xq, h'.xc⟩
  · unfold RowAt
    rw [ha.block q' h'.row.lt n1]; exact h'.row
  · rw [ha.block c' (Array.getElem?_eq_some_iff.1 hch').1 n2]; exact hch'
/-- A reader's box has changed. -/
theorem FeedC.turned (Pl : Plain K) {X : Set_} {w w' : World} {P bm : Nat} {Q C : Nat → Nat} {R R' : Rs α} (h : FeedC K X w P bm Q C R) {n : Int} {b b' : Bx α} (hn : rd R n = some b) (ha : Aside (two_ (Q n.toNat) (C n.toNat)) w w')
    (hb : BoxAt K X w' (Q n.toNat) (C n.toNat) b') (hl : R'.length = R.length) (hv : live R' = live R) (hr : ∀ m, rd R' m = if m = n then some b' else rd R m) : FeedC K X w' P bm Q C R' := by
  have hbx := h.box n b hn
  obtain ⟨a1, a2, a3, a4⟩ := h.apart hbx
  have hne : ∀ m, rd R' m ≠ none → rd R m ≠ none := by
    intro m hm
    rw [hr m] at hm
    split at hm
    · rename_i e
      rw [e, hn]; exact fun e => by cases e
    · exact hm
  refine ⟨?_, ?_, ?_, fun m k hm hk e => h.qq m k (hne m hm) (hne k hk) e, fun m k hm hk e => h.cc m k (hne m hm) (hne k hk) e, h.xp, h.xm, fun k hk => Nat.lt_of_lt_of_le (h.old k hk) ha.size⟩
  · unfold RowAt
    rw [hl, ha.block P h.blk.lt (fun hs => hs.elim a1 a2)]; exact h.blk
  · rw [hv]
    refine (h.map.aside ha (fun hs => hs.elim a3 a4)).congr fun k => ?_
    rw [hr k]
    split
    · rename_i e
      rw [e, hn]; rfl
    · rfl
  · intro m d hm
    rw [hr m] at hm
    split at hm
    · rename_i e
      rw [e]
      cases hm
      exact hb
    · rename_i e
      have hm0 : rd R m ≠ none := by rw [hm]; exact fun e => by cases e
      have hn0 : rd R n ≠ none := by rw [hn]; exact fun e => by cases e
      exact hbx.other Pl (h.box m d hm) ha (fun e1 => e (h.qq m n hm0 hn0 e1)) (fun e1 => e (h.cc m n hm0 hn0 e1))
/-- No thing lies in the feed's own block, nor in its map. -/
theorem FeedC.mapless (Nm : ∀ x m, K.val x ≠ .map m) {X : Set_} {w : World} {P bm : Nat} {Q C : Nat → Nat} {R : Rs α} (h : FeedC K X w P bm Q C R) : ∀ k v, (k = P ∨ k = bm) → w.cell? ⟨k, 0, none⟩ = some v → ∀ x, v ≠ K.val x := by
  intro k v hk hv x e
  rcases hk with rfl | rfl
  · rw [h.f0] at hv
    cases hv
    exact Nm x _ e.symm
  · rw [map_no_cell h.map] at hv
    cases hv
/-- A box is kept where the feed's own block and its map change alone. -/
theorem FeedC.boxes (Nm : ∀ x m, K.val x ≠ .map m) {X : Set_} {w w' : World} {P bm : Nat} {Q C : Nat → Nat} {R : Rs α} (h : FeedC K X w P bm Q C R) (ha : Aside (fun k => k = P ∨ k = bm) w w') {n : Int} {b : Bx α} (hn : rd R n = some b) : BoxAt K X w' (Q n.toNat) (C n.toNat) b := by
  have hb := h.box n b hn
  obtain ⟨a1, a2, a3, a4⟩ := h.apart hb
  obtain ⟨buf, s, r, hch, hI⟩ := hb.ch
  refine ⟨?_, ⟨buf, s, r, ?_, hI.but ha (h.mapless Nm)⟩, hb.len, hb.pos, hb.few, hb.xq, hb.xc⟩
  · unfold RowAt
    rw [ha.block _ hb.row.lt (fun hs => hs.elim (fun e => a1 e.symm) fun e => a3 e.symm)]; exact hb.row
  · rw [ha.block _ (Array.getElem?_eq_some_iff.1 hch).1 (fun hs => hs.elim (fun e => a2 e.symm) fun e => a4 e.symm)]; exact hch
/-- One has left. -/
theorem FeedC.left (Nm : ∀ x m, K.val x ≠ .map m) {X : Set_} {w w' : World} {P bm : Nat} {Q C : Nat → Nat} {R : Rs α} (h : FeedC K X w P bm Q C R) {n : Int} {b : Bx α} (hn : rd R n = some b) (hg : Aside (fun k => k = bm) w w')
    (hm : IMAt w' bm (updI (fun k => (rd R k).map fun _ => pt (Q k.toNat)) n none) (live R - 1)) : FeedC K X w' P bm Q C (setR R n none) := by
  have hr := fun m => rd_set hn none m
  have ha : Aside (fun k => k = P ∨ k = bm) w w' := hg.mono fun k _ e => Or.inr e
  have hne : ∀ m, rd (setR R n none) m ≠ none → rd R m ≠ none := by
    intro m hm
    rw [hr m] at hm
    split at hm
    · exact absurd rfl hm
    · exact hm
  refine ⟨?_, ?_, ?_, fun m k hm hk e => h.qq m k (hne m hm) (hne k hk) e, fun m k hm hk e => h.cc m k (hne m hm) (hne k hk) e, h.xp, h.xm, fun k hk => Nat.lt_of_lt_of_le (h.old k hk) ha.size⟩
  · unfold RowAt
    rw [len_set, hg.block P h.blk.lt h.pm]; exact h.blk
  · rw [live_none hn]
    refine hm.congr fun k => ?_
    rw [hr k]
    unfold updI
    split
    · rfl
    · rfl
  · intro m d hm
    rw [hr m] at hm
    split at hm
    · cases hm
    · exact h.boxes Nm ha hm
/-- One has joined: in new blocks. -/
theorem FeedC.joined (Nm : ∀ x m, K.val x ≠ .map m) {X : Set_} {w w' : World} {P bm q c : Nat} {Q C : Nat → Nat} {R : Rs α} (h : FeedC K X w P bm Q C R) {b : Bx α} (ha : Aside (fun k => k = P ∨ k = bm) w w') (hblk : RowAt K.tf w' P [] [.map (some bm), .int .i64 ((R.length : Int) + 1)])
    (hm : IMAt w' bm (updI (fun k => (rd R k).map fun _ => pt (Q k.toNat)) ((R.length : Int) + 1) (some (pt q))) (live R + 1)) (hq : w.heap.size ≤ q) (hc : w.heap.size ≤ c)
    (hb : BoxAt K (fun k => X k ∨ w.heap.size ≤ k ∧ k < w'.heap.size) w' q c b) :
    FeedC K (fun k => X k ∨ w.heap.size ≤ k ∧ k < w'.heap.size) w' P bm (fun k => if k = R.length + 1 then q else Q k) (fun k => if k = R.length + 1 then c else C k) (R ++ [some b]) := by
  have hQ : ∀ m, rd R m ≠ none → ¬ m.toNat = R.length + 1 ∧ Q m.toNat < w.heap.size ∧ C m.toNat < w.heap.size := by
    intro m hm
    cases hr : rd R m with
    | none => exact absurd hr hm
    | some d =>
      have h1 := rd_some hr
      have hbx := h.box m d hr
      exact ⟨by omega, h.old _ hbx.xq, h.old _ hbx.xc⟩
  have hL : ∀ m : Int, m = R.length + 1 → m.toNat = R.length + 1 := fun m e => by omega
  have hcase : ∀ m, rd (R ++ [some b]) m ≠ none → m = R.length + 1 ∨ (m ≠ R.length + 1 ∧ rd R m ≠ none) := by
    intro m hm
    rw [rd_join m] at hm
    split at hm
    · exact Or.inl ‹_›
    · exact Or.inr ⟨‹_›, hm⟩
  refine ⟨?_, ?_, ?_, ?_, ?_, Or.inl h.xp, Or.inl h.xm, fun k hk => ?_⟩
  · rw [List.length_append]; exact hblk
  · rw [live_join]
    refine hm.congr fun k => ?_
    rw [rd_join k]
    unfold updI
    by_cases e : k = R.length + 1
    · rw [if_pos e, if_pos e, Option.map_some, if_pos (hL k e)]
    · rw [if_neg e, if_neg e]
      show (rd R k).map _ = _
      cases hr : rd R k with
      | none => rfl
      | some d =>
        have := (hQ k (by rw [hr]; exact fun e => by cases e)).1
        rw [Option.map_some, Option.map_some, if_neg this]
  · intro m d hm
    have h0 := hm
    rw [rd_join m] at hm
    split at hm
    · rename_i e
      cases hm
      rw [if_pos (hL m e), if_pos (hL m e)]
      exact hb
    · rename_i e
      have := (hQ m (by rw [hm]; exact fun e => by cases e)).1
      rw [if_neg this, if_neg this]
      exact (h.boxes Nm ha hm).mono fun k hk => Or.inl hk
  · intro m k hm hk e
    rcases hcase m hm with e1 | ⟨e1, h1⟩ <;> rcases hcase k hk with e2 | ⟨e2, h2⟩
    · omega
    · have := hQ k h2
      rw [if_pos (hL m e1), if_neg this.1] at e
      omega
    · have := hQ m h1
      rw [if_pos (hL k e2), if_neg this.1] at e
      omega
    · have a1 := hQ m h1
      have a2 := hQ k h2
      rw [if_neg a1.1, if_neg a2.1] at e
      exact h.qq m k h1 h2 e
  · intro m k hm hk e
    rcases hcase m hm with e1 | ⟨e1, h1⟩ <;> rcases hcase k hk with e2 | ⟨e2, h2⟩
    · omega
    · have := hQ k h2
      rw [if_pos (hL m e1), if_neg this.1] at e
      omega
    · have := hQ m h1
      rw [if_pos (hL k e2), if_neg this.1] at e
      omega
    · have a1 := hQ m h1
      have a2 := hQ k h2
      rw [if_neg a1.1, if_neg a2.1] at e
      exact h.cc m k h1 h2 e
  · rcases hk with hk | hk
    · exact Nat.lt_of_lt_of_le (h.old k hk) ha.size
    · exact hk.2
theorem FeedAt.aside {X S : Set_} {a b : World} {p : Value} {R : Rs α} (h : FeedAt K X a p R) (hb : Aside S a b) (hS : ∀ k, S k → ¬ X k) : FeedAt K X b p R := by
  obtain ⟨P, bm, Q, C, rfl, h⟩ := h
  exact ⟨P, bm, Q, C, rfl, h.aside hb hS⟩
theorem FeedAt.old {X : Set_} {w : World} {p : Value} {R : Rs α} (h : FeedAt K X w p R) : ∀ k, X k → k < w.heap.size := by
  obtain ⟨P, bm, Q, C, rfl, h⟩ := h
  exact h.old
/-- What a call leaves of a feed: it is R, in blocks that it had or that are new; all else is as it was. -/
def Turned (K : FK α) (X : Set_) (w w' : World) (p : Value) (R : Rs α) : Prop := ∃ X', FeedAt K X' w' p R ∧ Aside X w w' ∧ ∀ k, X' k → X k ∨ w.heap.size ≤ k
theorem FeedC.turn {X : Set_} {w w' : World} {P bm : Nat} {Q C : Nat → Nat} {R : Rs α} (h : FeedC K X w' P bm Q C R) (ha : Aside X w w') : Turned K X w w' (pt P) R := ⟨X, ⟨P, bm, Q, C, rfl, h⟩, ha, fun _ hk => Or.inl hk⟩
theorem FeedAt.same {X : Set_} {w : World} {p : Value} {R : Rs α} (h : FeedAt K X w p R) : Turned K X w w p R := ⟨X, h, Aside.refl _ _, fun _ hk => Or.inl hk⟩
/-- While a thing is told: the boxes that it was put into. -/
structure Told (es : Array MapEntry) (seen : Array Nat) (R R' : Rs α) (x : α) : Prop where
  len : R'.length = R.length
  live : live R' = live R
  at_ : ∀ e ∈ es.toList, ∀ n, e.key = ki n → rd R' n = if seen.contains e.born then (rd R n).map fun b => b.put x else rd R n
  out : ∀ n, (∀ e ∈ es.toList, e.key ≠ ki n) → rd R' n = none ∧ rd R n = none
theorem Told.start {es : Array MapEntry} {f : Int → Option Value} {R : Rs α} (x : α) (h : IEs es f) (hf : ∀ k, f k = none → rd R k = none) : Told es #[] R R x :=
  ⟨rfl, rfl, fun e _ n _ => by simp, fun n hn => ⟨hf n (h.none n hn), hf n (h.none n hn)⟩⟩
theorem key_one {es : Array MapEntry} {clock : Nat} (h : Stamped es clock) {a b : MapEntry} (ha : a ∈ es.toList) (hb : b ∈ es.toList) (e : a.born = b.born ∨ a.key = b.key) : a = b := by
  have hs := (stamped_iff es clock).1 h
  obtain ⟨i, hi, ea⟩ := List.getElem_of_mem ha
  obtain ⟨j, hj, eb⟩ := List.getElem_of_mem hb
  by_cases hij : i = j
  · subst hij
    rw [← ea, ← eb]
  · exfalso
    rcases e with e | e
    · rcases Nat.lt_or_gt_of_ne hij with hlt | hlt
      · have := List.pairwise_iff_getElem.1 (List.pairwise_map.1 hs.2.1) i j hi hj hlt
        rw [ea, eb] at this
        omega
      · have := List.pairwise_iff_getElem.1 (List.pairwise_map.1 hs.2.1) j i hj hi hlt
        rw [ea, eb] at this
        omega
    · rcases Nat.lt_or_gt_of_ne hij with hlt | hlt
      · have := List.pairwise_iff_getElem.1 hs.2.2 i j hi hj hlt
        rw [ea, eb] at this
        exact this e
      · have := List.pairwise_iff_getElem.1 hs.2.2 j i hj hi hlt
        rw [ea, eb] at this
        exact this e.symm
theorem Told.more {es : Array MapEntry} {clock : Nat} {seen : Array Nat} {R R' : Rs α} {x : α} (h : Told es seen R R' x) (hst : Stamped es clock) {e : MapEntry} (he : e ∈ es.toList) (hs : seen.contains e.born = false) {n : Int} (hk : e.key = ki n) {b : Bx α} (hb : rd R' n = some b) :
    Told es (seen.push e.born) R (setR R' n (some (b.put x))) x ∧ rd R n = some b := by
  have h0 : rd R' n = rd R n := by
    rw [h.at_ e he n hk, hs]; rfl
  refine ⟨⟨by rw [len_set]; exact h.len, by rw [live_some hb]; exact h.live, ?_, ?_⟩, by rw [← h0]; exact hb⟩
  · intro e1 he1 m hm
    rw [rd_set hb]
    by_cases hmn : m = n
    · subst hmn
      have e2 : e1 = e := key_one hst he1 he (Or.inr (by rw [hm, hk]))
      subst e2
      rw [if_pos rfl, if_pos (by simp), ← h0, hb]; rfl
    · rw [if_neg hmn, h.at_ e1 he1 m hm]
      have hne : e1.born ≠ e.born := by
        intro eb
        have e2 : e1 = e := key_one hst he1 he (Or.inl eb)
        subst e2
        rw [hm] at hk
        exact hmn (ki_inj hk)
      have hc : (seen.push e.born).contains e1.born = seen.contains e1.born := by
        rw [Bool.eq_iff_iff]
        simp [hne]
      rw [hc]
  · intro m hm
    have hmn : m ≠ n := fun e1 => hm e he (by rw [hk, e1])
    rw [rd_set hb, if_neg hmn]
    exact h.out m hm
theorem Told.done {es : Array MapEntry} {seen : Array Nat} {R R' : Rs α} {x : α} (h : Told es seen R R' x) (hs : ∀ e ∈ es.toList, seen.contains e.born = true) : R' = tellR R x := by
  refine rd_ext (by rw [len_tell]; exact h.len) fun n => ?_
  rw [rd_tell]
  by_cases hn : ∀ e ∈ es.toList, e.key ≠ ki n
  · obtain ⟨h1, h2⟩ := h.out n hn
    rw [h1, h2]; rfl
  · obtain ⟨e, he, hk⟩ : ∃ e, e ∈ es.toList ∧ e.key = ki n := by
      refine Classical.byContradiction fun hno => hn fun e he hk => hno ⟨e, he, hk⟩
    rw [h.at_ e he n hk, if_pos (hs e he)]
theorem pop_none {b : Bx α} (h : b.list = []) : b.pop = b := by
  obtain ⟨p, l, ls⟩ := b
  simp only at h
  subst h
  rfl
theorem take_same {R : Rs α} {n : Int} {b : Bx α} (h : rd R n = some b) (hl : b.list = []) : takeR R n = R := by
  unfold takeR
  rw [h]
  refine rd_ext (len_set _ _) fun m => ?_
  show rd (setR R n (some b.pop)) m = rd R m
  rw [rd_set h, pop_none hl]
  split
  · rename_i e
    rw [e, h]
  · rfl
end
theorem mapT_i : MapT 46 49 where
  map := Try.underlying46
  key := Try.underlying3
  zero := fun w => by kernel_rfl
theorem mapT_s : MapT 58 61 where
  map := Try.underlying58
  key := Try.underlying3
  zero := fun w => by kernel_rfl
end Go.Proofs.Ytbblhogdfdpipaa
