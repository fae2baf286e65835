/-
  Plain words on logs (layer 14): a log that is open on a plate; an append that is answered OK, and one that is cut off.
  What the calls of a log promise: the record Wal, over a plate's.
  Rows of values of m cells each, over any program: append of one.
  The statements' anchor of layer 14, walked out of the records Plate and Wal.
  Plain words on logs (layer 14): a plate at rest with its records; lives of a log, one after the other.
-/
import Derived.Test.YtbjgknoipbekoaaGreatQ1
import Derived.Test.YtbjgknoipbekoaaGreatQ0
namespace Go.Proofs.YtbjgknoipbekoaaGreat
/-- All records that sectors begin with, with their openings. -/
def thereL (g : Nat) : Nat → List Bs → Nat → Nat → List (Bs × Nat)
  | 0, _, _, _ => []
  | n + 1, l, low, m =>
    match oneP l g low m with
    | none => []
    | some b => (b, opF (l.headD [])) :: thereL g n (l.drop (needs b.length)) (opF (l.headD [])) (m + 1)
theorem there_stands {g : Nat} (hg : g < 4294967296) : ∀ {n : Nat} {l : List Bs} {low m : Nat}, l.length ≤ n → m + n < 4294967296 → (∀ s ∈ l, s.length = 64) → Stands g l low m (thereL g n l low m)
  | 0, l, low, m, hn, _, _ => by
    obtain rfl : l = [] := List.eq_nil_of_length_eq_zero (by omega)
    exact rfl
  | n + 1, l, low, m, hn, hm, hl => by
    unfold thereL
    cases h : oneP l g low m with
    | none => exact h
    | some b =>
      obtain ⟨o, ho⟩ := one_open hl h
      obtain ⟨s, e1, e2, _⟩ := begins_op hg (by omega) ho
      have e3 : opF (l.headD []) = o := by
        cases l with
        | nil => simp at e1
        | cons x r => simp only [List.getElem?_cons_zero, Option.some.injEq] at e1; subst e1; exact e2
      have hp := needs_pos b.length
      have hf := ho.fits
      simp only [e3]
      exact ⟨ho, there_stands hg (by rw [List.length_drop]; omega) (by omega) (fun s hs => hl s (List.mem_of_mem_drop hs))⟩
theorem few_used : ∀ (rs : List (Bs × Nat)), rs.length ≤ usedR rs
  | [] => Nat.le_refl _
  | (b, o) :: rs => by
    have h1 := few_used rs
    have h2 := needs_pos b.length
    show rs.length + 1 ≤ needs b.length + usedR rs
    omega
theorem used_app : ∀ (rs : List (Bs × Nat)) (b : Bs) (o : Nat), usedR (rs ++ [(b, o)]) = usedR rs + needs b.length
  | [], b, o => by show needs b.length + 0 = 0 + needs b.length; omega
  | (c, p) :: rs, b, o => by
    have := used_app rs b o
    show needs c.length + usedR (rs ++ [(b, o)]) = needs c.length + usedR rs + needs b.length
    omega
structure LS where
  start : Nat
  size : Nat
  gen : Nat
  opening : Nat
  rs : List (Bs × Nat)
  shut : Bool
/-- The record's sectors. -/
def nextS (L : LS) (b : Bs) : List Bs := recS b L.gen L.opening (L.rs.length + 1)
def putL (L : LS) (s : PS) (b : Bs) : PS × Int := W.putAll s (L.start + usedR L.rs) (nextS L b)
def appendE (L : LS) (s : PS) (b : Bs) : Int := if L.shut then 61 else if 65536 < b.length then 54 else if L.size < usedR L.rs + needs b.length then 52 else (putL L s b).2
def appendP (L : LS) (s : PS) (b : Bs) : PS := if L.shut then s else if 65536 < b.length then s else if L.size < usedR L.rs + needs b.length then s else (putL L s b).1
def appendL (L : LS) (s : PS) (b : Bs) : LS := if L.shut then L else if 65536 < b.length then L else if L.size < usedR L.rs + needs b.length then L else if (putL L s b).2 = 0 then ⟨L.start, L.size, L.gen, L.opening, L.rs ++ [(b, L.opening)], false⟩ else ⟨L.start, L.size, L.gen, L.opening, L.rs, true⟩
/-- What the log's sectors hold. -/
structure LogI (L : LS) (s : PS) : Prop where
  ok : s.Ok
  gen0 : 1 ≤ L.gen
  gen : L.gen < 2147483648
  fit : L.start + L.size ≤ s.safe.length
  op0 : 1 ≤ L.opening
  op : L.opening < 4294967296
  st : Stands L.gen (W.partOf s.safe L.start L.size) 1 1 L.rs
  tail : Upto L.gen (L.opening - 1) ((W.partOf s.safe L.start L.size).drop (usedR L.rs))
  all : Upto L.gen L.opening (W.partOf s.safe L.start L.size)
  ops : ∀ x ∈ L.rs, x.2 ≤ L.opening
  loose : s.loose = []
  down : s.down = false
theorem part_64 {s : PS} (h : s.Ok) (a n : Nat) : ∀ x ∈ W.partOf s.safe a n, x.length = 64 := fun x hx => h.safe x (List.mem_of_mem_drop (List.mem_of_mem_take hx))
/-- A log that was just opened. -/
theorem open_log {s : PS} (h : s.Ok) (hl : s.loose = []) (hd : s.down = false) {a n g : Nat} (hf : a + n ≤ s.safe.length) (hg0 : 1 ≤ g) (hg : g < 2147483648) (ht : topP g (W.partOf s.safe a n) + 1 < 4294967296) :
    LogI ⟨a, n, g, topP g (W.partOf s.safe a n) + 1, thereL g n (W.partOf s.safe a n) 1 1, false⟩ s := by
  have h64 := part_64 h a n
  have hu := upto_top (g := g) h64
  have hlen := W.partOf_len hf
  have hfew := h.few
  have hst : Stands g (W.partOf s.safe a n) 1 1 (thereL g n (W.partOf s.safe a n) 1 1) := there_stands (by omega) (by omega) (by omega) h64
  have hused := used_le hst
  have hfw := few_used (thereL g n (W.partOf s.safe a n) 1 1)
  refine ⟨h, hg0, hg, hf, by show 1 ≤ _ + 1; omega, ht, hst, ?_, hu.mono (by show _ ≤ _ + 1; omega), fun x hx => ?_, hl, hd⟩
  · show Upto g (topP g (W.partOf s.safe a n) + 1 - 1) _
    rw [Nat.add_sub_cancel]
    exact hu.drop _
  · have := stands_top (T := topP g (W.partOf s.safe a n)) (by omega) (Nat.le_refl 1) (by omega) hu hst x hx
    show x.2 ≤ _ + 1
    omega
section
variable {L : LS} {s : PS} {b : Bs}
theorem next_64 (L : LS) (b : Bs) : ∀ x ∈ nextS L b, x.length = 64 := fun x hx => by
  unfold nextS recS at hx
  obtain ⟨i, hi, rfl⟩ := List.mem_map.1 hx
  exact part_len _ _ _ (List.mem_range.1 hi)
theorem LogI.count (h : LogI L s) : L.rs.length ≤ 16384 := by
  have h1 := few_used L.rs
  have h2 := used_le h.st
  rw [W.partOf_len h.fit] at h2
  have := h.fit
  have := h.ok.few
  omega
theorem LogI.tried (h : LogI L s) (hb : b.length ≤ 65536) (hr : usedR L.rs + needs b.length ≤ L.size) (K : Nat → Bool) :
    Stands L.gen (triedS K b L.gen L.opening (1 + L.rs.length) (usedR L.rs) (W.partOf s.safe L.start L.size)) 1 1 (if ∀ i, i < needs b.length → K i = true then L.rs ++ [(b, L.opening)] else L.rs) ∧ Upto L.gen L.opening (triedS K b L.gen L.opening (1 + L.rs.length) (usedR L.rs) (W.partOf s.safe L.start L.size)) := by
  have hc := h.count
  have hg := h.gen
  have hl := W.partOf_len h.fit
  refine ⟨Go.Proofs.YtbjgknoipbekoaaGreat.tried (K := K) (b := b) (T := L.opening - 1) (by omega) h.op hb (by have := h.op0; omega) h.tail h.st (Nat.le_refl 1) (by omega) h.op0 h.ops (by rw [hl]; omega), ?_⟩
  intro x hx
  unfold triedS at hx
  rcases List.mem_append.1 hx with hx | hx
  · exact h.all x (List.mem_of_mem_take hx)
  · exact (h.all.drop _).mix (K := K) (by omega) h.op (by omega) hb (Nat.le_refl _) x hx
/-- An append that is answered OK. -/
theorem append_ok (h : LogI L s) (hs : L.shut = false) (hb : b.length ≤ 65536) (hr : usedR L.rs + needs b.length ≤ L.size) (hl : s.left < 0 ∨ (needs b.length : Int) + 1 ≤ s.left) : appendE L s b = 0 ∧ LogI (appendL L s b) (appendP L s b) ∧ (appendL L s b).rs = L.rs ++ [(b, L.opening)] ∧ (appendL L s b).shut = false := by
  have hlen : (nextS L b).length = needs b.length := rec_len _ _ _ _
  have hfit := h.fit
  have hput : putL L s b = (⟨applyL s.safe (s.loose ++ W.placed (L.start + usedR L.rs) (nextS L b)), [], W.leftBy s.left (needs b.length + 1), false⟩, 0) := by
    unfold putL
    rw [W.put_ok h.down (by rw [hlen]; exact hl) (next_64 L b) (by rw [hlen]; omega), hlen]
  rw [h.loose, List.nil_append] at hput
  have e1 : appendE L s b = 0 := by unfold appendE; rw [hs, hput, if_neg (by decide), if_neg (by omega), if_neg (by omega)]
  have e2 : appendP L s b = ⟨applyL s.safe (W.placed (L.start + usedR L.rs) (nextS L b)), [], W.leftBy s.left (needs b.length + 1), false⟩ := by unfold appendP; rw [hs, hput, if_neg (by decide), if_neg (by omega), if_neg (by omega)]
  have e3 : appendL L s b = ⟨L.start, L.size, L.gen, L.opening, L.rs ++ [(b, L.opening)], false⟩ := by unfold appendL; rw [hs, hput, if_neg (by decide), if_neg (by omega), if_neg (by omega), if_pos rfl]
  have hpart : W.partOf (applyL s.safe (W.placed (L.start + usedR L.rs) (nextS L b))) L.start L.size = triedS (fun _ => true) b L.gen L.opening (1 + L.rs.length) (usedR L.rs) (W.partOf s.safe L.start L.size) := by
    rw [W.sync_part h.fit (by rw [hlen]; omega)]
    unfold triedS nextS
    rw [Nat.add_comm 1]
  obtain ⟨t1, t2⟩ := h.tried hb hr (fun _ => true)
  rw [if_pos (fun _ _ => rfl)] at t1
  refine ⟨e1, ?_, by rw [e3], by rw [e3]⟩
  rw [e2, e3]
  have hplaced : ∀ x ∈ W.placed (L.start + usedR L.rs) (nextS L b), x.2.length = 64 := fun x hx => by
    unfold W.placed at hx
    obtain ⟨i, hi, rfl⟩ := List.mem_map.1 hx
    have hi' := List.mem_range.1 hi
    show ((nextS L b).getD i []).length = 64
    rw [List.getD_eq_getElem?_getD, List.getElem?_eq_getElem hi']
    exact next_64 L b _ (List.getElem_mem hi')
  refine ⟨⟨?_, apply_all h.ok.safe hplaced, fun x hx => (by cases hx), ?_, ?_⟩, h.gen0, h.gen, ?_, h.op0, h.op, ?_, ?_, ?_, ?_, rfl, rfl⟩
  · show (applyL _ _).length ≤ _; rw [apply_len]; exact h.ok.few
  · show -1 ≤ W.leftBy _ _
    have := h.ok.left
    unfold W.leftBy
    split <;> omega
  · show W.leftBy _ _ ≤ _
    have := h.ok.most
    unfold W.leftBy
    split <;> omega
  · show L.start + L.size ≤ (applyL _ _).length
    rw [apply_len]; exact h.fit
  · show Stands L.gen (W.partOf (applyL _ _) L.start L.size) 1 1 (L.rs ++ [(b, L.opening)])
    rw [hpart]; exact t1
  · show Upto L.gen (L.opening - 1) ((W.partOf (applyL _ _) L.start L.size).drop (usedR (L.rs ++ [(b, L.opening)])))
    rw [hpart, used_app]
    intro x hx
    have hl := W.partOf_len h.fit
    have htl : ((W.partOf s.safe L.start L.size).take (usedR L.rs)).length = usedR L.rs := by rw [List.length_take, hl]; omega
    obtain ⟨i, hi⟩ := List.getElem?_of_mem hx
    unfold triedS at hi
    rw [List.getElem?_drop, List.getElem?_append_right (by rw [htl]; omega), htl, show usedR L.rs + needs b.length + i - usedR L.rs = needs b.length + i by omega] at hi
    have hlt : needs b.length + i < ((W.partOf s.safe L.start L.size).drop (usedR L.rs)).length := by
      have := (List.getElem?_eq_some_iff.1 hi).1
      rwa [mix_len] at this
    rw [mix_old hlt (by rw [rec_len]; omega)] at hi
    exact h.tail x (List.mem_of_getElem? hi)
  · show Upto L.gen L.opening (W.partOf (applyL _ _) L.start L.size)
    rw [hpart]; exact t2
  · intro x hx
    rcases List.mem_append.1 hx with hx | hx
    · exact h.ops x hx
    · simp only [List.mem_singleton] at hx
      subst hx
      exact Nat.le_refl _
/-- An append that is cut off by a crash, whatever is kept of it: all of the record or nothing. -/
theorem append_cut (h : LogI L s) (hs : L.shut = false) (hb : b.length ≤ 65536) (hr : usedR L.rs + needs b.length ≤ L.size) {k : Nat} (hl : s.left = (k : Int)) (hk : k ≤ needs b.length) (keep : List Bool) :
    appendE L s b = 50 ∧ (appendL L s b).shut = true ∧ (appendP L s b).loose.length = k ∧ (appendP L s b).down = true ∧
    Stands L.gen (W.partOf (reviveS (appendP L s b) keep).safe L.start L.size) 1 1 (if ∀ i, i < needs b.length → (decide (i < k) && keep.getD i false) = true then L.rs ++ [(b, L.opening)] else L.rs) ∧ Upto L.gen L.opening (W.partOf (reviveS (appendP L s b) keep).safe L.start L.size) := by
  have hlen : (nextS L b).length = needs b.length := rec_len _ _ _ _
  have hfit := h.fit
  have hput : putL L s b = (⟨s.safe, s.loose ++ (W.placed (L.start + usedR L.rs) (nextS L b)).take k, 0, true⟩, 50) := by
    unfold putL
    rw [W.put_down h.down hl (by rw [hlen]; exact hk) (next_64 L b) (by rw [hlen]; omega)]
  rw [h.loose, List.nil_append] at hput
  have e1 : appendE L s b = 50 := by unfold appendE; rw [hs, hput, if_neg (by decide), if_neg (by omega), if_neg (by omega)]
  have e2 : appendP L s b = ⟨s.safe, (W.placed (L.start + usedR L.rs) (nextS L b)).take k, 0, true⟩ := by unfold appendP; rw [hs, hput, if_neg (by decide), if_neg (by omega), if_neg (by omega)]
  have e3 : appendL L s b = ⟨L.start, L.size, L.gen, L.opening, L.rs, true⟩ := by unfold appendL; rw [hs, hput, if_neg (by decide), if_neg (by omega), if_neg (by omega), if_neg (show ¬ (50 : Int) = 0 by decide)]
  have hpart : W.partOf (reviveS (appendP L s b) keep).safe L.start L.size = triedS (fun i => decide (i < k) && keep.getD i false) b L.gen L.opening (1 + L.rs.length) (usedR L.rs) (W.partOf s.safe L.start L.size) := by
    rw [e2]
    show W.partOf (applyL s.safe (keptL ((W.placed (L.start + usedR L.rs) (nextS L b)).take k) keep)) L.start L.size = _
    rw [W.crash_part h.fit (by rw [hlen]; omega) (by rw [hlen]; exact hk)]
    unfold triedS nextS
    rw [Nat.add_comm 1]
  obtain ⟨t1, t2⟩ := h.tried hb hr (fun i => decide (i < k) && keep.getD i false)
  refine ⟨e1, by rw [e3], ?_, by rw [e2], by rw [hpart]; exact t1, by rw [hpart]; exact t2⟩
  rw [e2]
  show ((W.placed _ _).take k).length = k
  rw [List.length_take, W.placed_len, hlen]
  omega
end
end Go.Proofs.YtbjgknoipbekoaaGreat
namespace Go.Proofs.YtbjgknoipbekoaaGreat
open Go.RowKit
/-- What a plate tells who reads it. -/
def contentS (s : PS) : List Bs := applyL s.safe s.loose
/-- The cells of a slice may be written. -/
def FreeAt (w : World) (v : Value) (n : Nat) : Prop := ∀ (g o c m : Nat), v = .slice (some ⟨g, o, none⟩) m c → ∀ j, j < n → w.frozen? ⟨g, o + j, none⟩ = false
/-- A slice of slices of bytes, all of it in blocks from B on. -/
structure ListsAt (B : Nat) (w : World) (x : Value) (vs : List Value) (l : List Bs) : Prop where
  row : ValsAt w x vs
  new : ∀ k, x.ownBlock = some k → B ≤ k
  len : vs.length = l.length
  each : ∀ (i : Nat) (v : Value) (b : Bs), vs[i]? = some v → l[i]? = some b → BytesAt w v b ∧ (∀ k, v.ownBlock = some k → B ≤ k) ∧ FreeAt w v b.length
/-- What Room tells. -/
def roomL (L : LS) : Int := if usedR L.rs = L.size then -1 else min (48 * ((L.size - usedR L.rs : Nat) : Int) - 4) 65536
def openL (s : PS) (a n g : Nat) : LS := ⟨a, n, g, topP g (W.partOf (contentS s) a n) + 1, thereL g n (W.partOf (contentS s) a n) 1 1, false⟩
/-- A log in memory, over the plate p: S the blocks of its own that its calls may write, R those that they only read. -/
structure Wal (PAt : Set_ → Set_ → World → Value → PS → Prop) (LAt : Set_ → Set_ → World → Value → Value → LS → Prop) : Prop where
  ptr : ∀ {S R w l p L}, LAt S R w l p L → ∃ a, l = .pointer (some a)
  old : ∀ {S R w l p L}, LAt S R w l p L → ∀ k, S k ∨ R k → k < w.heap.size
  kept : ∀ {S R T w w' l p L}, LAt S R w l p L → Aside T w w' → (∀ k, T k → ¬ S k ∧ ¬ R k) → LAt S R w' l p L
  open_sector : ∀ {S R w p s} (a b g : Int), PAt S R w p s → ¬ (0 ≤ a ∧ a < b ∧ b ≤ s.safe.length) → -9223372036854775808 ≤ a → a ≤ 9223372036854775807 → -9223372036854775808 ≤ b → b ≤ 9223372036854775807 → Calls Tryz.prog 87 #[p, .int .i64 a, .int .i64 b, .int .i64 g] w fun e w' => e = .returned (.tuple #[.pointer none, .int .i64 51]) ∧ Below w.heap.size w w'
  open_form : ∀ {S R w p s} (a b g : Int), PAt S R w p s → 0 ≤ a ∧ a < b ∧ b ≤ s.safe.length → (g < 1 ∨ 2147483648 ≤ g) → Calls Tryz.prog 87 #[p, .int .i64 a, .int .i64 b, .int .i64 g] w fun e w' => e = .returned (.tuple #[.pointer none, .int .i64 30]) ∧ Below w.heap.size w w'
  open_yes : ∀ {S R w p s} (a n g : Nat), PAt S R w p s → 1 ≤ n → a + n ≤ s.safe.length → 1 ≤ g → g < 2147483648 → s.down = false → s.loose.length ≤ 100000 → Calls Tryz.prog 87 #[p, .int .i64 (a : Int), .int .i64 ((a + n : Nat) : Int), .int .i64 (g : Int)] w fun e w' => ∃ l, e = .returned (.tuple #[l, .int .i64 0]) ∧ ∃ S2 R2, LAt S2 R2 w' l p (openL s a n g) ∧ (∀ k, S2 k ∨ R2 k → w.heap.size ≤ k) ∧ Below w.heap.size w w'
  append : ∀ {S R S2 R2 w l p s L} (x : Value) (b : Bs), PAt S R w p s → LAt S2 R2 w l p L → (∀ k, S2 k → ¬ S k ∧ ¬ R k) → (∀ k, S k → ¬ R2 k) → BytesAt w x b → (b ≠ [] → ∀ k, x.ownBlock = some k → ¬ S k ∧ ¬ S2 k) → b.length ≤ 1000000 → (L.shut = false → LogI L s) →
    Calls Tryz.prog 50 #[l, x] w fun e w' => e = .returned (.int .i64 (appendE L s b)) ∧ ∃ S' R' S2' R2', PAt S' R' w' p (appendP L s b) ∧ LAt S2' R2' w' l p (appendL L s b) ∧ (∀ k, S' k ∨ S2' k → (S k ∨ S2 k) ∨ w.heap.size ≤ k) ∧ (∀ k, R' k → R k ∨ w.heap.size ≤ k) ∧ (∀ k, R2' k → R2 k ∨ w.heap.size ≤ k) ∧ (∀ k, S2' k → ¬ S' k ∧ ¬ R' k) ∧ (∀ k, S' k → ¬ R2' k) ∧ Aside (fun k => S k ∨ S2 k) w w'
  records : ∀ {S R w l p L}, LAt S R w l p L → L.rs.length ≤ 20000 → (∀ x ∈ L.rs, x.1.length ≤ 65536) → Calls Tryz.prog 67 #[l] w fun e w' => ∃ v vs, e = .returned v ∧ ListsAt w.heap.size w' v vs (L.rs.map (·.1)) ∧ Below w.heap.size w w'
  room : ∀ {S R w l p L}, LAt S R w l p L → usedR L.rs ≤ L.size → L.size ≤ 16384 → Calls Tryz.prog 47 #[l] w fun e w' => e = .returned (.int .i64 (roomL L)) ∧ Below w.heap.size w w'
/-- A plate and a log on it, both made behind the world w0. -/
structure Lg (PAt : Set_ → Set_ → World → Value → PS → Prop) (LAt : Set_ → Set_ → World → Value → Value → LS → Prop) (w0 w : World) (p l : Value) (S R S2 R2 : Set_) (s : PS) (L : LS) : Prop where
  lg : LAt S2 R2 w l p L
  p : PAt S R w p s
  sepP : ∀ k, S2 k → ¬ S k ∧ ¬ R k
  sepL : ∀ k, S k → ¬ R2 k
  ge : ∀ k, S k ∨ R k → w0.heap.size ≤ k
  ge2 : ∀ k, S2 k ∨ R2 k → w0.heap.size ≤ k
  b : Below w0.heap.size w0 w
/-- A plate that was made behind the world w0. -/
structure On (PAt : Set_ → Set_ → World → Value → PS → Prop) (w0 w : World) (p : Value) (S R : Set_) (s : PS) : Prop where
  p : PAt S R w p s
  ge : ∀ k, S k ∨ R k → w0.heap.size ≤ k
  b : Below w0.heap.size w0 w
section
variable {PAt : Set_ → Set_ → World → Value → PS → Prop} {LAt : Set_ → Set_ → World → Value → Value → LS → Prop} (HP : Plate PAt) (HW : Wal PAt LAt)
variable {w0 w w' : World} {p l : Value} {S R S2 R2 : Set_} {s : PS} {L : LS}
include HP in
theorem On.below (h : On PAt w0 w p S R s) (hb : Below w.heap.size w w') : On PAt w0 w' p S R s :=
  ⟨HP.kept h.p (T := none_) (Aside.of_below hb) fun _ hk => hk.elim, h.ge, h.b.trans (hb.mono h.b.size)⟩
theorem On.call (h : On PAt w0 w p S R s) {S' R' : Set_} {s' : PS} (hp : PAt S' R' w' p s') (hS : ∀ k, S' k → S k ∨ w.heap.size ≤ k) (hR : ∀ k, R' k → R k ∨ w.heap.size ≤ k) (ha : Aside S w w') : On PAt w0 w' p S' R' s' := by
  have hs := h.b.size
  refine ⟨hp, ?_, h.b.trans (ha.below hs fun k hk => h.ge k (Or.inl hk))⟩
  rintro k (hk | hk)
  · rcases hS k hk with h1 | h1
    · exact h.ge k (Or.inl h1)
    · omega
  · rcases hR k hk with h1 | h1
    · exact h.ge k (Or.inr h1)
    · omega
include HP in
theorem On.new (h : On PAt w0 w p S R s) {k : Nat} (hk : w.heap.size ≤ k) : ¬ S k := fun hS => by have := HP.old h.p k (Or.inl hS); omega
theorem On.old (h : On PAt w0 w p S R s) {k : Nat} (hk : k < w0.heap.size) : ¬ S k := fun hS => by have := h.ge k (Or.inl hS); omega
include HP in
theorem On.kept (h : On PAt w0 w p S R s) {T : Set_} (ha : Aside T w w') (hT : ∀ k, T k → ¬ S k ∧ ¬ R k) (hg : ∀ k, T k → w0.heap.size ≤ k) : On PAt w0 w' p S R s :=
  ⟨HP.kept h.p ha hT, h.ge, h.b.trans (ha.below h.b.size hg)⟩
include HP in
/-- A log is opened. -/
theorem On.opened (h : On PAt w0 w p S R s) (hl : LAt S2 R2 w' l p L) (hn : ∀ k, S2 k ∨ R2 k → w.heap.size ≤ k) (hb : Below w.heap.size w w') : Lg PAt LAt w0 w' p l S R S2 R2 s L := by
  have ho := HP.old h.p
  have h2 := h.below HP hb
  have hs := h.b.size
  refine ⟨hl, h2.p, fun k hk => ⟨fun hS => ?_, fun hR => ?_⟩, fun k hS hk => ?_, h2.ge, fun k hk => ?_, h2.b⟩
  · have h1 := ho k (Or.inl hS); have := hn k (Or.inl hk); omega
  · have h1 := ho k (Or.inr hR); have := hn k (Or.inl hk); omega
  · have h1 := ho k (Or.inl hS); have := hn k (Or.inr hk); omega
  · have := hn k hk; omega
theorem Lg.on (h : Lg PAt LAt w0 w p l S R S2 R2 s L) : On PAt w0 w p S R s := ⟨h.p, h.ge, h.b⟩
include HP HW in
theorem Lg.below (h : Lg PAt LAt w0 w p l S R S2 R2 s L) (hb : Below w.heap.size w w') : Lg PAt LAt w0 w' p l S R S2 R2 s L :=
  ⟨HW.kept h.lg (T := none_) (Aside.of_below hb) fun _ hk => hk.elim, HP.kept h.p (T := none_) (Aside.of_below hb) fun _ hk => hk.elim, h.sepP, h.sepL, h.ge, h.ge2, h.b.trans (hb.mono h.b.size)⟩
include HP HW in
theorem Lg.new (h : Lg PAt LAt w0 w p l S R S2 R2 s L) {k : Nat} (hk : w.heap.size ≤ k) : (¬ S k ∧ ¬ S2 k) ∧ ¬ R k ∧ ¬ R2 k :=
  ⟨⟨fun hS => by have := HP.old h.p k (Or.inl hS); omega, fun hS => by have := HW.old h.lg k (Or.inl hS); omega⟩, fun hS => by have := HP.old h.p k (Or.inr hS); omega, fun hS => by have := HW.old h.lg k (Or.inr hS); omega⟩
theorem Lg.old (h : Lg PAt LAt w0 w p l S R S2 R2 s L) {k : Nat} (hk : k < w0.heap.size) : ¬ S k ∧ ¬ S2 k :=
  ⟨fun hS => by have := h.ge k (Or.inl hS); omega, fun hS => by have := h.ge2 k (Or.inl hS); omega⟩
include HP HW in
theorem Lg.kept (h : Lg PAt LAt w0 w p l S R S2 R2 s L) {T : Set_} (ha : Aside T w w') (hT : ∀ k, T k → (¬ S k ∧ ¬ R k) ∧ ¬ S2 k ∧ ¬ R2 k) (hg : ∀ k, T k → w0.heap.size ≤ k) : Lg PAt LAt w0 w' p l S R S2 R2 s L :=
  ⟨HW.kept h.lg ha fun k hk => (hT k hk).2, HP.kept h.p ha fun k hk => (hT k hk).1, h.sepP, h.sepL, h.ge, h.ge2, h.b.trans (ha.below h.b.size hg)⟩
include HW in
/-- Behind a call on the plate. -/
theorem Lg.plate (h : Lg PAt LAt w0 w p l S R S2 R2 s L) {S' R' : Set_} {s' : PS} (hp : PAt S' R' w' p s') (hS : ∀ k, S' k → S k ∨ w.heap.size ≤ k) (hR : ∀ k, R' k → R k ∨ w.heap.size ≤ k) (ha : Aside S w w') : Lg PAt LAt w0 w' p l S' R' S2 R2 s' L := by
  have h1 := h.on.call hp hS hR ha
  have ho := HW.old h.lg
  refine ⟨HW.kept h.lg ha fun k hk => ⟨fun h2 => (h.sepP k h2).1 hk, h.sepL k hk⟩, hp, fun k hk => ⟨fun h2 => ?_, fun h2 => ?_⟩, fun k h2 hk => ?_, h1.ge, h.ge2, h1.b⟩
  · rcases hS k h2 with h3 | h3
    · exact (h.sepP k hk).1 h3
    · have := ho k (Or.inl hk); omega
  · rcases hR k h2 with h3 | h3
    · exact (h.sepP k hk).2 h3
    · have := ho k (Or.inl hk); omega
  · rcases hS k h2 with h3 | h3
    · exact h.sepL k h3 hk
    · have := ho k (Or.inr hk); omega
/-- Behind an append. -/
theorem Lg.append (h : Lg PAt LAt w0 w p l S R S2 R2 s L) {S' R' S2' R2' : Set_} {s' : PS} {L' : LS} (hp : PAt S' R' w' p s') (hl : LAt S2' R2' w' l p L') (hS : ∀ k, S' k ∨ S2' k → (S k ∨ S2 k) ∨ w.heap.size ≤ k) (hR : ∀ k, R' k → R k ∨ w.heap.size ≤ k) (hR2 : ∀ k, R2' k → R2 k ∨ w.heap.size ≤ k) (h1 : ∀ k, S2' k → ¬ S' k ∧ ¬ R' k) (h2 : ∀ k, S' k → ¬ R2' k) (ha : Aside (fun k => S k ∨ S2 k) w w') : Lg PAt LAt w0 w' p l S' R' S2' R2' s' L' := by
  have hs := h.b.size
  have hge : ∀ k, S k ∨ S2 k → w0.heap.size ≤ k := fun k hk => hk.elim (fun h3 => h.ge k (Or.inl h3)) fun h3 => h.ge2 k (Or.inl h3)
  refine ⟨hl, hp, h1, h2, fun k hk => ?_, fun k hk => ?_, h.b.trans (ha.below hs hge)⟩
  · rcases hk with hk | hk
    · rcases hS k (Or.inl hk) with h3 | h3
      · exact hge k h3
      · omega
    · rcases hR k hk with h3 | h3
      · exact h.ge k (Or.inr h3)
      · omega
  · rcases hk with hk | hk
    · rcases hS k (Or.inr hk) with h3 | h3
      · exact hge k h3
      · omega
    · rcases hR2 k hk with h3 | h3
      · exact h.ge2 k (Or.inr h3)
      · omega
end
end Go.Proofs.YtbjgknoipbekoaaGreat
namespace Go.Proofs.YtbjgknoipbekoaaGreat
open Go.RowKit
/-- Cells one behind the other. -/
def CellsAt (w : World) (g o : Nat) (cs : List Value) : Prop := ∀ (j : Nat) (u : Value), cs[j]? = some u → w.cell? ⟨g, o + j, none⟩ = some u
section
variable {P : Program}
/-- A type of slices whose elements have m cells, of by_ bytes. -/
structure ElemN (P : Program) (t e : TypeId) (z : Value) (m by_ : Nat) : Prop where
  under : P.underlying t = some (.slice e)
  info : ∃ i, P.info? e = some i ∧ i.zero = some z ∧ i.size = m ∧ i.bytes = by_
  cells : z.cells.size = m
  mpos : 0 < m
  pos : 0 < by_
  small : by_ ≤ 1024
/-- A row of values of the call's own. -/
def OwnN (e : TypeId) (m : Nat) (w : World) (base : Nat) (v : Value) (n : Nat) (xs : List Value) : Prop := w.ownsRow base e m v n xs
theorem run_append_one {t e : TypeId} {z : Value} {m by_ : Nat} (E : ElemN P t e z m by_) (w : World) (base : Nat) (v : Value) (n : Nat) (xs ds : List Value) (hown : OwnN e m w base v n xs) (ga go c : Nat) (hds : ds.length = m) (hy : CellsAt w ga go ds) (h1 : ∀ u ∈ ds, u.oneCell' = true) (hb : base ≤ w.heap.size) (hlen : n ≤ 1073741824) (ty : TypeId) :
    ∃ v' w', (Builtin.append_ #[t, t] ty #[v, .slice (some ⟨ga, go, none⟩) 1 c]).run P w = .ok v' w' ∧ OwnN e m w' base v' (n + 1) (xs ++ ds) ∧ w.grownBy w' v.ownBlock ∧ (v'.ownBlock = v.ownBlock ∨ v'.ownBlock = some w.heap.size) := by
  obtain ⟨hu, ⟨i, hi, hz, hsz, hby⟩, hfive, hmpos, hpos, hsm⟩ := E
  have hbb : (n + 1) * i.bytes ≤ 140737488355328 := by
    rw [hby]
    have := Nat.mul_le_mul (show n + 1 ≤ 1073741825 by omega) hsm
    omega
  have hn : ∀ j u, ds[j]? = some u → w.cell? ((⟨ga, go, none⟩ : Addr).add j) = some u := by
    intro j u hu
    rw [Addr.add_mid]; exact hy j u hu
  have hl5 : ds.length = 1 * m := by omega
  obtain ⟨v', w', hr, h2, h3, _⟩ := run_append_own (P := P) w base t ty e i z m by_ hu hi hz hsz hby hfive (by omega) v n xs hown ⟨ga, go, none⟩ 1 c ds hl5 hn h1 (by simp only [maxLen]; omega) (by rw [← hby]; exact hbb) hb
  refine ⟨v', w', hr, h2, h3, ?_⟩
  have hl5i : ds.length = 1 * i.size := by rw [hsz]; omega
  have hown' := hown
  rcases hown'.2 with ⟨rfl, rfl⟩ | ⟨g, cap, cur, rfl, hbg, hg, hnc, hcm, hcs, htake⟩
  · have hr2 := run_append_nil (P := P) w t ty e i z hu hi hz ⟨ga, go, none⟩ 1 c ds hl5i hn (by omega) (by omega) (by rw [hby]; omega)
    rw [hr] at hr2
    have := (Result.ok.inj hr2).1
    subst this
    exact Or.inr rfl
  · by_cases hroom : n + 1 ≤ cap
    · have hr2 := run_append_room (P := P) w t ty e i hu hi g n cap cur hg ⟨ga, go, none⟩ 1 c ds hl5i hn h1 hroom (by rw [hsz, hcs, hl5, ← Nat.add_mul]; exact Nat.mul_le_mul_right _ hroom)
      rw [hr] at hr2
      have := (Result.ok.inj hr2).1
      subst this
      exact Or.inl rfl
    · have holds : ∀ j u, xs[j]? = some u → w.cell? ((⟨g, 0, none⟩ : Addr).add j) = some u := World.ownsRow.cells hown (g := g) rfl
      have hr2 := run_append_grow (P := P) w t ty e i z hu hi hz ⟨g, 0, none⟩ n cap xs (by rw [hsz]; exact hown.1) holds ⟨ga, go, none⟩ 1 c ds hl5i hn (by omega) (by omega) (growslice_fits (by omega) hbb)
      rw [hr] at hr2
      have := (Result.ok.inj hr2).1
      subst this
      exact Or.inr rfl
/-- As a step of a region that draws. -/
theorem step_append_one {t e : TypeId} {z : Value} {m by_ : Nat} (E : ElemN P t e z m by_) {w : World} {ops : Array Oper} {o : Oper} {a : Act} {K : Act → World → Prop} {Q : Exit → Act → World → Prop} {F : Prop} (hgd : o.guard = none) (s x : Operand)
    (ho : o.op = .call { callee := .builtin .append, args := #[s, x], argTypes := #[t, t] }) (base : Nat) (v : Value) (n : Nat) (xs ds : List Value) (hs : a.eval s = v) (hown : OwnN e m w base v n xs) (ga go c : Nat)
    (hx : a.eval x = .slice (some ⟨ga, go, none⟩) 1 c) (hds : ds.length = m) (hy : CellsAt w ga go ds) (h1 : ∀ u ∈ ds, u.oneCell' = true) (hb : base ≤ w.heap.size) (hlen : n ≤ 1073741824)
    (h : ∀ v' w', OwnN e m w' base v' (n + 1) (xs ++ ds) → w.grownBy w' v.ownBlock → (v'.ownBlock = v.ownBlock ∨ v'.ownBlock = some w.heap.size) → K (a.put o.dst v') w') : if Region.wanted o (yielded ops a.tmps) = true then Oper.wp P o a w K Q else F := by
  have hw : Region.wanted o (yielded ops a.tmps) = true := by simp [Region.wanted, hgd]
  rw [if_pos hw]
  obtain ⟨v', w', hrun, h2, h3, h4⟩ := run_append_one E w base v n xs ds hown ga go c hds hy h1 hb hlen o.type
  unfold Oper.wp execOp
  simp only [ho, resolve, invoke, builtin, Sem.run_bind, Sem.run_pure, Result.andThen_ok, List.map_toArray, List.map_cons, List.map_nil, hs, hx, hrun]
  exact h v' w' h2 h3 h4
end
theorem ownn_nil (e : TypeId) (m : Nat) (w : World) (base : Nat) : OwnN e m w base (.slice none 0 0) 0 [] := World.ownsRow_nil w base e m
theorem OwnN.form {e : TypeId} {m : Nat} {w : World} {base : Nat} {v : Value} {n : Nat} {xs : List Value} (h : OwnN e m w base v n xs) : ∃ sp c, v = .slice sp n c ∧ n ≤ c ∧ (sp = none → c = 0) := by
  rcases h.2 with ⟨rfl, rfl⟩ | ⟨g, cap, cur, rfl, _, _, hn, _⟩
  · exact ⟨none, 0, rfl, Nat.le_refl _, fun _ => rfl⟩
  · exact ⟨_, cap, rfl, hn, fun e => by cases e⟩
/-- Such a row lies in a block. -/
theorem OwnN.at {e : TypeId} {m : Nat} {w : World} {base : Nat} {v : Value} {n : Nat} {xs : List Value} (h : OwnN e m w base v n xs) (hn : 0 < n) : ∃ g c, v = .slice (some ⟨g, 0, none⟩) n c ∧ base ≤ g ∧ g < w.heap.size ∧ n ≤ c ∧ CellsAt w g 0 xs := by
  rcases h.2 with ⟨rfl, rfl⟩ | ⟨g, cap, cur, rfl, hb, hg, hnc, _⟩
  · omega
  · refine ⟨g, cap, rfl, hb, (Array.getElem?_eq_some_iff.1 hg).1, hnc, fun j u hu => ?_⟩
    have := World.ownsRow.cells h (g := g) rfl j u hu
    rw [Addr.add_mid] at this
    exact this
theorem OwnN.below {e : TypeId} {m : Nat} {a b : World} {B : Nat} {v : Value} {n : Nat} {xs : List Value} (h : OwnN e m a B v n xs) (hb : Below a.heap.size a b) : OwnN e m b B v n xs := by
  refine ⟨h.1, ?_⟩
  rcases h.2 with h2 | ⟨g, cap, cur, hv, hB, hg, r⟩
  · exact Or.inl h2
  · exact Or.inr ⟨g, cap, cur, hv, hB, by rw [hb.block g (Array.getElem?_eq_some_iff.1 hg).1]; exact hg, r⟩
theorem OwnN.aside {S : Set_} {e : TypeId} {m : Nat} {a b : World} {B : Nat} {v : Value} {n : Nat} {xs : List Value} (h : OwnN e m a B v n xs) (hb : Aside S a b) (hx : ∀ k, v.ownBlock = some k → ¬ S k) : OwnN e m b B v n xs := by
  refine ⟨h.1, ?_⟩
  rcases h.2 with h2 | ⟨g, cap, cur, hv, hB, hgg, r⟩
  · exact Or.inl h2
  · exact Or.inr ⟨g, cap, cur, hv, hB, by rw [hb.block g (Array.getElem?_eq_some_iff.1 hgg).1 (hx g (by rw [hv]; rfl))]; exact hgg, r⟩
theorem OwnN.kept {e : TypeId} {m : Nat} {a b : World} {B : Nat} {v : Value} {n : Nat} {xs : List Value} {row : Option Nat} (h : OwnN e m a B v n xs) (hg : a.grownBy b row) (hne : ∀ g, v.ownBlock = some g → row ≠ some g) : OwnN e m b B v n xs := by
  refine ⟨h.1, ?_⟩
  rcases h.2 with h2 | ⟨g, cap, cur, hv, hB, hgg, r⟩
  · exact Or.inl h2
  · exact Or.inr ⟨g, cap, cur, hv, hB, by rw [hg.block g (Array.getElem?_eq_some_iff.1 hgg).1 (fun er => hne g (by rw [hv]; rfl) er.symm)]; exact hgg, r⟩
theorem OwnN.lt {e : TypeId} {m : Nat} {w : World} {B : Nat} {v : Value} {n : Nat} {xs : List Value} (h : OwnN e m w B v n xs) : ∀ k, v.ownBlock = some k → B ≤ k ∧ k < w.heap.size := World.ownsRow.lt h
theorem elemN_of {t e : TypeId} {z : Value} {m n : Nat} (hu : Tryz.prog.underlying t = some (.slice e)) (h : (Tryz.prog.info? e).map (fun i => (i.zero, i.size, i.bytes)) = some (some z, m, n)) (h1 : z.cells.size = m) (hm : 0 < m) (h0 : 0 < n) (hn : n ≤ 1024) : ElemN Tryz.prog t e z m n := by
  obtain ⟨i, hi, h2⟩ := Option.map_eq_some_iff.1 h
  simp only [Prod.mk.injEq] at h2
  exact ⟨hu, ⟨i, hi, h2.1, h2.2.1, h2.2.2⟩, h1, hm, h0, hn⟩
end Go.Proofs.YtbjgknoipbekoaaGreat
namespace Go.Proofs.YtbjgknoipbekoaaGreat
open Go.RowKit
/-- Bytes of nought in a block of their own. -/
theorem made_zeros (w : World) (n : Nat) (hn : n ≤ 1000000) : ∃ W, (Instr.makeSlice 23 (.int .i64 (n : Int)) (.int .i64 (n : Int))).run Tryz.prog w = .ok (.slice (some ⟨w.heap.size, 0, none⟩) n n) W ∧ OwnB W w.heap.size (.slice (some ⟨w.heap.size, 0, none⟩) n n) (List.replicate n 0) ∧ Below w.heap.size w W := by
  obtain ⟨W, hm, hrow, hb⟩ := made_vals Eb rfl w .i64 .i64 n n n rfl rfl (by omega)
  refine ⟨W, hm, ⟨by simp, Or.inr ⟨w.heap.size, n, (List.replicate n (Value.int .u8 0)).toArray, by simp, Nat.le_refl _, by unfold RowAt at hrow; rwa [List.append_nil] at hrow, by simp, by simp [maxLen]; omega, by simp, ?_⟩⟩, hb⟩
  simp [List.take_of_length_le, bv]
theorem top_le {g T : Nat} {l : List Bs} (h : Upto g T l) : topP g l ≤ T := by
  have key : ∀ (l : List Bs) (t : Nat), Upto g T l → t ≤ T → l.foldl (fun t s => if isPart g s ∧ t < opF s then opF s else t) t ≤ T := by
    intro l
    induction l with
    | nil => intro t _ ht; exact ht
    | cons x l ih =>
      intro t hu ht
      rw [List.foldl_cons]
      refine ih _ (fun s hs => hu s (List.mem_cons_of_mem _ hs)) ?_
      split
      · rename_i hc; exact (hu x List.mem_cons_self).2 hc.1
      · exact ht
  exact key l 0 h (Nat.zero_le _)
theorem content_none {s : PS} (h : s.loose = []) : contentS s = s.safe := by unfold contentS; rw [h]; rfl
/-- No sector is a part of this generation. -/
theorem none_there {g : Nat} {l : List Bs} {n : Nat} (hg : g < 4294967296) (h : Upto g 0 l) : topP g l = 0 ∧ thereL g n l 1 1 = [] := by
  refine ⟨by have := top_le h; omega, ?_⟩
  cases n with
  | zero => rfl
  | succ n =>
    unfold thereL
    rw [one_none (fun s hs => (h s hs).1)]
    intro b o hB
    obtain ⟨s, e1, e2, e3⟩ := begins_op hg (by omega) hB
    have hp := needs_pos b.length
    have := (h s (List.mem_of_getElem? e1)).2 (by rw [e3]; exact part_isPart hg hB.op (by omega) (by omega) hB.big (by omega))
    have := hB.low
    omega
theorem zero_upto (g : Nat) (hg : 1 ≤ g) : ∀ s, s = zeros → s.length = 64 ∧ (isPart g s → opF s ≤ 0) := by
  rintro s rfl
  refine ⟨zeros_len, fun h => ?_⟩
  have h1 : genF zeros = 0 := by decide +kernel
  rw [h.1] at h1
  omega
theorem new_upto (g n a m : Nat) (hg : 1 ≤ g) : Upto g 0 (W.partOf (newS n).safe a m) := fun s hs => zero_upto g hg s (List.eq_of_mem_replicate (List.mem_of_mem_drop (List.mem_of_mem_take hs)))
/-- A log that is opened on a new plate. -/
theorem open_new (n a m g : Nat) (hn : n ≤ 16384) (hf : a + m ≤ n) (hg0 : 1 ≤ g) (hg : g < 2147483648) : openL (newS n) a m g = ⟨a, m, g, 1, [], false⟩ ∧ LogI ⟨a, m, g, 1, [], false⟩ (newS n) := by
  have hc : contentS (newS n) = (newS n).safe := rfl
  obtain ⟨h1, h2⟩ := none_there (n := m) (by omega : g < 4294967296) (new_upto g n a m hg0)
  have e : openL (newS n) a m g = ⟨a, m, g, 1, [], false⟩ := by unfold openL; rw [hc, h1, h2]
  refine ⟨e, ?_⟩
  have := open_log (s := newS n) (ok_new hn) rfl rfl (a := a) (n := m) (g := g) (by show a + m ≤ (List.replicate n zeros).length; rw [List.length_replicate]; exact hf) hg0 hg (by rw [h1]; omega)
  rw [h1, h2] at this
  exact this
section
variable {PAt : Set_ → Set_ → World → Value → PS → Prop} {LAt : Set_ → Set_ → World → Value → Value → LS → Prop} (HP : Plate PAt) (HW : Wal PAt LAt)
variable {w0 w : World} {p l : Value} {S R S2 R2 : Set_} {s : PS} {L : LS}
/-- A block is none of the plate's and the log's. -/
def Off (S R S2 R2 : Set_) (k : Nat) : Prop := (¬ S k ∧ ¬ R k) ∧ ¬ S2 k ∧ ¬ R2 k
include HP HW in
theorem Lg.off (h : Lg PAt LAt w0 w p l S R S2 R2 s L) {k : Nat} (hk : w.heap.size ≤ k ∨ k < w0.heap.size) : Off S R S2 R2 k := by
  rcases hk with hk | hk
  · exact ⟨⟨fun hS => by have := HP.old h.p k (Or.inl hS); omega, fun hS => by have := HP.old h.p k (Or.inr hS); omega⟩, fun hS => by have := HW.old h.lg k (Or.inl hS); omega, fun hS => by have := HW.old h.lg k (Or.inr hS); omega⟩
  · exact ⟨⟨fun hS => by have := h.ge k (Or.inl hS); omega, fun hS => by have := h.ge k (Or.inr hS); omega⟩, fun hS => by have := h.ge2 k (Or.inl hS); omega, fun hS => by have := h.ge2 k (Or.inr hS); omega⟩
include HP HW in
theorem On.open_ (h : On PAt w0 w p S R s) (a n g : Nat) (hn : 1 ≤ n) (hf : a + n ≤ s.safe.length) (hg0 : 1 ≤ g) (hg : g < 2147483648) (hd : s.down = false) (hl : s.loose.length ≤ 100000) :
    Calls Tryz.prog 87 #[p, .int .i64 (a : Int), .int .i64 ((a + n : Nat) : Int), .int .i64 (g : Int)] w fun e w' => ∃ la, e = .returned (.tuple #[.pointer (some la), .int .i64 0]) ∧ ∃ S2 R2, Lg PAt LAt w0 w' p (.pointer (some la)) S R S2 R2 s (openL s a n g) ∧ Below w.heap.size w w' ∧ ∀ k, S2 k ∨ R2 k → w.heap.size ≤ k := by
  refine (HW.open_yes a n g h.p hn hf hg0 hg hd hl).mono ?_
  rintro e w' ⟨l, rfl, S2, R2, h1, h2, h3⟩
  obtain ⟨la, rfl⟩ := HW.ptr h1
  exact ⟨la, rfl, S2, R2, h.opened HP h1 h2 h3, h3, h2⟩
include HP HW in
theorem Lg.recs (h : Lg PAt LAt w0 w p l S R S2 R2 s L) (hr : L.rs.length ≤ 20000) (hl : ∀ x ∈ L.rs, x.1.length ≤ 65536) : Calls Tryz.prog 67 #[l] w fun e w' => ∃ v vs, e = .returned v ∧ ListsAt w.heap.size w' v vs (L.rs.map (·.1)) ∧ Lg PAt LAt w0 w' p l S R S2 R2 s L ∧ Below w.heap.size w w' := by
  refine (HW.records h.lg hr hl).mono ?_
  rintro e w' ⟨v, vs, rfl, h1, hb⟩
  exact ⟨v, vs, rfl, h1, h.below HP HW hb, hb⟩
end
end Go.Proofs.YtbjgknoipbekoaaGreat
namespace Go.Proofs.YtbjgknoipbekoaaGreat
/-- A plate at rest, in whose sectors these records are there; no part's opening is above T. -/
structure Rest (g a n T : Nat) (s : PS) (rs : List (Bs × Nat)) : Prop where
  ok : s.Ok
  loose : s.loose = []
  down : s.down = false
  fit : a + n ≤ s.safe.length
  st : Stands g (W.partOf s.safe a n) 1 1 rs
  up : Upto g T (W.partOf s.safe a n)
theorem Rest.few {g a n T : Nat} {s : PS} {rs : List (Bs × Nat)} (h : Rest g a n T s rs) : usedR rs ≤ n ∧ rs.length ≤ n := by
  have h1 := used_le h.st
  rw [W.partOf_len h.fit] at h1
  have := few_used rs
  omega
theorem stands_big {g : Nat} : ∀ {rs : List (Bs × Nat)} {l : List Bs} {low m : Nat}, Stands g l low m rs → ∀ x ∈ rs, x.1.length ≤ 65536
  | [], _, _, _, _ => fun x hx => by cases hx
  | (b, o) :: rs, l, low, m, h => fun x hx => by
    rcases List.mem_cons.1 hx with rfl | hx
    · exact h.1.big
    · exact stands_big h.2 x hx
theorem Rest.open_ {g a n T : Nat} {s : PS} {rs : List (Bs × Nat)} (h : Rest g a n T s rs) (hg0 : 1 ≤ g) (hg : g < 2147483648) (hT : T + 1 < 4294967296) : (openL s a n g).rs = rs ∧ (openL s a n g).opening ≤ T + 1 ∧ LogI (openL s a n g) s := by
  have hc := content_none h.loose
  have ht := top_le h.up
  have hlen := W.partOf_len h.fit
  have hfw := h.ok.few
  have hfit := h.fit
  have hf := h.few
  have hI := open_log h.ok h.loose h.down h.fit hg0 hg (by omega)
  have e : openL s a n g = ⟨a, n, g, topP g (W.partOf s.safe a n) + 1, thereL g n (W.partOf s.safe a n) 1 1, false⟩ := by unfold openL; rw [hc]
  rw [e]
  refine ⟨?_, by show _ + 1 ≤ _; omega, hI⟩
  exact (stands_one (by omega) (by omega) h.st hI.st).symm
theorem rest_new (n a m g : Nat) (hn : n ≤ 16384) (hf : a + m ≤ n) (hg0 : 1 ≤ g) (hg : g < 2147483648) : Rest g a m 0 (newS n) [] := by
  obtain ⟨_, h⟩ := open_new n a m g hn hf hg0 hg
  exact ⟨h.ok, rfl, rfl, h.fit, h.st, new_upto g n a m hg0⟩
theorem LogI.arm {L : LS} {s : PS} (h : LogI L s) {k : Int} (hk : k ≤ 9223372036854775807) : LogI L (armS s k) := ⟨h.ok.arm hk, h.gen0, h.gen, h.fit, h.op0, h.op, h.st, h.tail, h.all, h.ops, h.loose, h.down⟩
/-- A life that wasn't cut off. -/
theorem LogI.rest {L : LS} {s : PS} (h : LogI L s) (keep : List Bool) : Rest L.gen L.start L.size L.opening (reviveS s keep) L.rs := by
  have e : reviveS s keep = ⟨s.safe, [], -1, false⟩ := by unfold reviveS; rw [h.loose]; cases keep <;> rfl
  rw [e]
  exact ⟨⟨h.ok.few, h.ok.safe, fun x hx => (by cases hx), by show (-1 : Int) ≤ -1; omega, by show (-1 : Int) ≤ _; omega⟩, rfl, rfl, h.fit, h.st, h.all⟩
section
variable {L : LS} {s : PS} {b : Bs}
/-- All that was written is kept. -/
def WholeK (n : Nat) (keep : List Bool) : Prop := ∀ i, i < n → keep.getD i false = true
instance (n : Nat) (keep : List Bool) : Decidable (WholeK n keep) := by unfold WholeK; exact inferInstance
theorem cut_form (h : LogI L s) (hs : L.shut = false) (hb : b.length ≤ 65536) (hr : usedR L.rs + needs b.length ≤ L.size) {k : Nat} (hl : s.left = (k : Int)) (hk : k ≤ needs b.length) :
    appendP L s b = ⟨s.safe, (W.placed (L.start + usedR L.rs) (nextS L b)).take k, 0, true⟩ ∧ appendL L s b = ⟨L.start, L.size, L.gen, L.opening, L.rs, true⟩ := by
  have hlen : (nextS L b).length = needs b.length := rec_len _ _ _ _
  have hfit := h.fit
  have hput : putL L s b = (⟨s.safe, s.loose ++ (W.placed (L.start + usedR L.rs) (nextS L b)).take k, 0, true⟩, 50) := by
    unfold putL
    rw [W.put_down h.down hl (by rw [hlen]; exact hk) (next_64 L b) (by rw [hlen]; omega)]
  rw [h.loose, List.nil_append] at hput
  constructor
  · unfold appendP; rw [hs, hput, if_neg (by decide), if_neg (by omega), if_neg (by omega)]
  · unfold appendL; rw [hs, hput, if_neg (by decide), if_neg (by omega), if_neg (by omega), if_neg (show ¬ (50 : Int) = 0 by decide)]
theorem placed_64 (a : Nat) (L : LS) (b : Bs) : ∀ x ∈ W.placed a (nextS L b), x.2.length = 64 := fun x hx => by
  unfold W.placed at hx
  obtain ⟨i, hi, rfl⟩ := List.mem_map.1 hx
  have hi' := List.mem_range.1 hi
  show ((nextS L b).getD i []).length = 64
  rw [List.getD_eq_getElem?_getD, List.getElem?_eq_getElem hi']
  exact next_64 L b _ (List.getElem_mem hi')
/-- A life that was cut off by a crash. -/
theorem cut_rest (h : LogI L s) (hs : L.shut = false) (hb : b.length ≤ 65536) (hr : usedR L.rs + needs b.length ≤ L.size) {k : Nat} (hl : s.left = (k : Int)) (hk : k ≤ needs b.length) (keep : List Bool) :
    appendE L s b = 50 ∧ (appendL L s b).shut = true ∧ (appendP L s b).loose.length = k ∧ Rest L.gen L.start L.size L.opening (reviveS (appendP L s b) keep) (if k = needs b.length ∧ WholeK k keep then L.rs ++ [(b, L.opening)] else L.rs) := by
  obtain ⟨e1, e2, e3, e4, e5, e6⟩ := append_cut h hs hb hr hl hk keep
  obtain ⟨f1, _⟩ := cut_form h hs hb hr hl hk
  refine ⟨e1, e2, e3, ⟨⟨?_, ?_, fun x hx => (by cases hx), by show (-1 : Int) ≤ -1; omega, by show (-1 : Int) ≤ _; omega⟩, rfl, rfl, ?_, ?_, e6⟩⟩
  · show (applyL (appendP L s b).safe _).length ≤ _
    rw [apply_len, f1]; exact h.ok.few
  · show ∀ x ∈ applyL (appendP L s b).safe (keptL (appendP L s b).loose keep), x.length = 64
    rw [f1]
    exact apply_all h.ok.safe fun x hx => placed_64 _ L b x (List.mem_of_mem_take (kept_mem hx))
  · show _ ≤ (applyL (appendP L s b).safe _).length
    rw [apply_len, f1]; exact h.fit
  · by_cases hc : ∀ i, i < needs b.length → (decide (i < k) && keep.getD i false) = true
    · rw [if_pos hc] at e5
      have hn := needs_pos b.length
      have hk2 : k = needs b.length := by
        have := hc (needs b.length - 1) (by omega)
        simp only [Bool.and_eq_true, decide_eq_true_eq] at this
        omega
      rw [if_pos ⟨hk2, fun i hi => by have := hc i (by omega); simp only [Bool.and_eq_true] at this; exact this.2⟩]
      exact e5
    · rw [if_neg hc] at e5
      rw [if_neg]
      · exact e5
      · rintro ⟨h1, h2⟩
        exact hc fun i hi => by rw [decide_eq_true (by omega), h2 i (by omega)]; rfl
end
end Go.Proofs.YtbjgknoipbekoaaGreat
