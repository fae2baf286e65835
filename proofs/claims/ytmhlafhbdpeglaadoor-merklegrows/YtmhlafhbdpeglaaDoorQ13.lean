/-
  The hash of the reference is SHA-256.
  A tree in memory: at each height a row of hashes.
  The walks of climb, the landed one and the reference's.
  The walk of over: the hash of so many leaves from a place on.
-/
import Derived.Test.YtmhlafhbdpeglaaDoorQ12
import Derived.Test.YtmhlafhbdpeglaaDoorQ8
import Derived.Deep.RegionHeld3
namespace Go.Proofs.YtmhlafhbdpeglaaDoor
open Go.RowKit
theorem bv_sha : (bv : UInt8 → Value) = Sha.bv := rfl
theorem sha_bytes {w : World} {x : Value} {l : Bs} (h : BytesAt w x l) : Sha.BytesAt w x l := by
  obtain ⟨sp, c, rfl, h1, h2, h3⟩ := h
  rw [List.length_map] at h1 ⊢
  exact ⟨sp, c, rfl, h1, h2, fun hl => h3 (by simpa using hl)⟩
theorem own_of_sha {w : World} {B : Nat} {v : Value} {l : Bs} (h : Sha.OwnB w B v l) : OwnB w B v l := by
  unfold OwnB OwnV
  rw [List.length_map]
  exact h
theorem len_sha (l : Bs) : (Sha.shaOf l).length = 32 := Sha.length_shaOf l
theorem ref_hash : RefHash Sha.shaOf := by
  refine ⟨len_sha, fun w x l hx hl => ?_⟩
  have h2 := sha_bytes hx
  obtain ⟨sp, c, rfl, _⟩ := bytes_open hx
  refine (Sha.refSum_any w sp c l h2 hl).mono ?_
  rintro e w' ⟨v, rfl, ho, hb⟩
  exact ⟨v, rfl, own_of_sha ho, hb⟩
end Go.Proofs.YtmhlafhbdpeglaaDoor
namespace Go.Proofs.YtmhlafhbdpeglaaDoor
open Go.RowKit
/-- The hash of a whole subtree. -/
def subP (g : Nat → Bs) (h j : Nat) : Bs := rootP Sha.shaOf g (j * 2 ^ h) (2 ^ h)
theorem len_subP {g : Nat → Bs} (hg : ∀ i, (g i).length = 32) (h j : Nat) : (subP g h j).length = 32 := len_root Sha.length_shaOf _ _ fun i _ _ => hg i
/-- A hash that lies in the tree's blocks S, but not where the tree writes. -/
def LooseB (S : Set_) (t : Nat) (cs : List Value) (u : Value) : Prop := ∀ k, u.ownBlock = some k → S k ∧ k ≠ t ∧ ∀ h, h < 64 → (cs.getD h undef).ownBlock ≠ some k
/-- A row holds the first n hashes of its height. -/
def RowHas (S : Set_) (w : World) (t : Nat) (cs : List Value) (g : Nat → Bs) (h n : Nat) : Prop := ∃ vs : List Value, OwnV 28 w 0 (cs.getD h undef) vs ∧ vs.length = n ∧ ∀ j, j < n → BytesAt w (vs.getD j undef) (subP g h j) ∧ LooseB S t cs (vs.getD j undef)
structure TreeC (S : Set_) (w : World) (t : Nat) (cs : List Value) (cnt : Nat → Nat) (g : Nat → Bs) : Prop where
  blk : RowAt 50 w t [] cs
  len : cs.length = 64
  row : ∀ h, h < 64 → RowHas S w t cs g h (cnt h)
  st : S t
  sr : ∀ h, h < 64 → ∀ k, (cs.getD h undef).ownBlock = some k → S k ∧ k ≠ t
  apart : ∀ h h', h < 64 → h' < 64 → h ≠ h' → Apart (cs.getD h undef) (cs.getD h' undef)
  old : ∀ k, S k → k < w.heap.size
theorem RowHas.aside {S U : Set_} {a b : World} {t : Nat} {cs : List Value} {g : Nat → Bs} {h n : Nat} (r : RowHas S a t cs g h n) (hb : Aside U a b) (hU : ∀ k, S k → ¬ U k) (hs : ∀ k, (cs.getD h undef).ownBlock = some k → S k) : RowHas S b t cs g h n := by
  obtain ⟨vs, h1, h2, h3⟩ := r
  exact ⟨vs, h1.aside hb fun k hk => hU k (hs k hk), h2, fun j hj => ⟨(h3 j hj).1.aside hb fun k hk => hU k ((h3 j hj).2 k hk).1, (h3 j hj).2⟩⟩
theorem TreeC.aside {S U : Set_} {a b : World} {t : Nat} {cs : List Value} {cnt : Nat → Nat} {g : Nat → Bs} (T : TreeC S a t cs cnt g) (hb : Aside U a b) (hU : ∀ k, S k → ¬ U k) : TreeC S b t cs cnt g where
  blk := by
    unfold RowAt
    rw [hb.block t (T.old t T.st) (hU t T.st)]; exact T.blk
  len := T.len
  row := fun h hh => (T.row h hh).aside hb hU fun k hk => (T.sr h hh k hk).1
  st := T.st
  sr := T.sr
  apart := T.apart
  old := fun k hk => Nat.lt_of_lt_of_le (T.old k hk) hb.size
theorem TreeC.below {S : Set_} {a b : World} {t : Nat} {cs : List Value} {cnt : Nat → Nat} {g : Nat → Bs} (T : TreeC S a t cs cnt g) (hb : Below a.heap.size a b) : TreeC S b t cs cnt g := T.aside (U := none_) (Aside.of_below hb) fun _ _ h => h
theorem LooseB.more {S S' : Set_} {t : Nat} {cs : List Value} {u : Value} (h : LooseB S t cs u) (hS : ∀ k, S k → S' k) : LooseB S' t cs u := fun k hk => ⟨hS k (h k hk).1, (h k hk).2⟩
/-- More blocks. -/
theorem TreeC.more {S S' : Set_} {w : World} {t : Nat} {cs : List Value} {cnt : Nat → Nat} {g : Nat → Bs} (T : TreeC S w t cs cnt g) (hS : ∀ k, S k → S' k) (ho : ∀ k, S' k → k < w.heap.size) : TreeC S' w t cs cnt g where
  blk := T.blk
  len := T.len
  row := fun h hh => by
    obtain ⟨vs, h1, h2, h3⟩ := T.row h hh
    exact ⟨vs, h1, h2, fun j hj => ⟨(h3 j hj).1, (h3 j hj).2.more hS⟩⟩
  st := hS t T.st
  sr := fun h hh k hk => ⟨hS k (T.sr h hh k hk).1, (T.sr h hh k hk).2⟩
  apart := T.apart
  old := ho
theorem TreeC.counts {S : Set_} {w : World} {t : Nat} {cs : List Value} {cnt cnt' : Nat → Nat} {g : Nat → Bs} (T : TreeC S w t cs cnt g) (hc : ∀ h, h < 64 → cnt h = cnt' h) : TreeC S w t cs cnt' g where
  blk := T.blk
  len := T.len
  row := fun h hh => by rw [← hc h hh]; exact T.row h hh
  st := T.st
  sr := T.sr
  apart := T.apart
  old := T.old
/-- The blocks that have come since. -/
def grownSet (S : Set_) (a b : World) : Set_ := fun k => S k ∨ (a.heap.size ≤ k ∧ k < b.heap.size)
/-- A fresh hash beside a tree. -/
theorem TreeC.fresh {S : Set_} {a b : World} {t : Nat} {cs : List Value} {cnt : Nat → Nat} {g : Nat → Bs} {u : Value} {l : Bs} (T : TreeC S a t cs cnt g) (hu : Row a b u l) : TreeC (grownSet S a b) b t cs cnt g ∧ LooseB (grownSet S a b) t cs u := by
  have T2 := T.below hu.b
  refine ⟨T2.more (fun k hk => Or.inl hk) fun k hk => ?_, fun k hk => ?_⟩
  · rcases hk with hk | hk
    · exact T2.old k hk
    · exact hk.2
  · have h1 := World.ownsRow.lt hu.own k hk
    have h1a := h1.1
    refine ⟨Or.inr h1, fun e => ?_, fun h hh e => ?_⟩
    · have := T.old t T.st; omega
    · have := T.old k (T.sr h hh k e).1; omega
theorem getD_set {α : Type} (l : List α) (i j : Nat) (v d : α) (hi : i < l.length) : (l.set i v).getD j d = if i = j then v else l.getD j d := by
  rw [List.getD_eq_getElem?_getD, List.getD_eq_getElem?_getD, List.getElem?_set]
  split
  · rename_i e
    subst e
    first | rfl | (rw [if_pos hi]; rfl)
  · rfl
/-- One hash more at the height h: the row grown, its slice laid in the tree. -/
theorem TreeC.push {S : Set_} {w1 w2 : World} {t : Nat} {cs : List Value} {cnt : Nat → Nat} {g : Nat → Bs} {u v' : Value} {vs : List Value} {h : Nat} (T : TreeC S w1 t cs cnt g) (hh : h < 64) (hvl : vs.length = cnt h)
    (hve : ∀ j, j < cnt h → BytesAt w1 (vs.getD j undef) (subP g h j) ∧ LooseB S t cs (vs.getD j undef)) (hu : BytesAt w1 u (subP g h (cnt h))) (hul : LooseB S t cs u)
    (ho2 : OwnV 28 w2 0 v' (vs ++ [u])) (hg : w1.grownBy w2 (cs.getD h undef).ownBlock) (hor : v'.ownBlock = (cs.getD h undef).ownBlock ∨ v'.ownBlock = some w1.heap.size) :
    TreeC (grownSet S w1 w2) (w2.setCell ⟨t, h, none⟩ v') t (cs.set h v') (fun x => if x = h then cnt h + 1 else cnt x) g ∧ Aside S w1 (w2.setCell ⟨t, h, none⟩ v') := by
  have hA : Aside S w1 w2 := Aside.of_grown hg fun k hk => (T.sr h hh k hk).1
  have hA2 : Aside S w1 (w2.setCell ⟨t, h, none⟩ v') := hA.setCell _ _ (Or.inr T.st)
  have hAr : Aside (fun k => (cs.getD h undef).ownBlock = some k) w1 w2 := Aside.of_grown hg fun k hk => hk
  have hAt : Aside (fun k => k = t) w2 (w2.setCell ⟨t, h, none⟩ v') := (Aside.refl _ _).setCell _ _ (Or.inr rfl)
  have htl := T.old t T.st
  have hvb : ∀ k, v'.ownBlock = some k → (cs.getD h undef).ownBlock = some k ∨ k = w1.heap.size := fun k hk => by
    rcases hor with e | e
    · exact Or.inl (e ▸ hk)
    · rw [e] at hk; exact Or.inr (Option.some.inj hk).symm
  have hvt : ∀ k, v'.ownBlock = some k → k ≠ t := fun k hk e => by
    rcases hvb k hk with h1 | h1
    · exact (T.sr h hh k h1).2 e
    · omega
  have hvlt : ∀ k, v'.ownBlock = some k → k < w2.heap.size := fun k hk => (World.ownsRow.lt ho2 k hk).2
  have hrow : RowAt 50 w2 t [] cs := by
    unfold RowAt
    rw [hg.block t htl (fun e => (T.sr h hh t e.symm).2 rfl)]; exact T.blk
  -- a loose hash stays one
  have key : ∀ (y : Value) (l : Bs), BytesAt w1 y l → LooseB S t cs y → BytesAt (w2.setCell ⟨t, h, none⟩ v') y l ∧ LooseB (grownSet S w1 w2) t (cs.set h v') y := fun y l hy hl => by
    refine ⟨(hy.aside hAr fun k hk e => (hl k hk).2.2 h hh e).aside hAt fun k hk e => (hl k hk).2.1 e, fun k hk => ⟨Or.inl (hl k hk).1, (hl k hk).2.1, fun h' hh' e => ?_⟩⟩
    rw [getD_set _ _ _ _ _ (by rw [T.len]; exact hh)] at e
    split at e
    · rcases hvb k e with h1 | h1
      · exact (hl k hk).2.2 h hh h1
      · have := T.old k (hl k hk).1; omega
    · exact (hl k hk).2.2 h' hh' e
  refine ⟨⟨hrow.set h (by rw [T.len]; exact hh) v', by rw [List.length_set]; exact T.len, fun x hx => ?_, Or.inl T.st, fun x hx k hk => ?_, fun x y hx hy hne k hk hq => ?_, fun k hk => ?_⟩, hA2⟩
  · by_cases e : x = h
    · subst e
      rw [if_pos rfl]
      refine ⟨vs ++ [u], ?_, by simp [hvl], fun j hj => ?_⟩
      · rw [getD_set _ _ _ _ _ (by rw [T.len]; exact hh), if_pos rfl]
        exact ho2.aside hAt fun k hk => hvt k hk
      · by_cases hlt : j < cnt x
        · have e1 : (vs ++ [u]).getD j undef = vs.getD j undef := by simp [List.getD_eq_getElem?_getD, List.getElem?_append_left (show j < vs.length by omega)]
          rw [e1]
          exact key _ _ (hve j hlt).1 (hve j hlt).2
        · obtain rfl : j = cnt x := by omega
          have e1 : (vs ++ [u]).getD (cnt x) undef = u := by rw [← hvl]; simp [List.getD_eq_getElem?_getD]
          rw [e1]
          exact key _ _ hu hul
    · rw [if_neg e]
      obtain ⟨us, h1, h2, h3⟩ := T.row x hx
      refine ⟨us, ?_, h2, fun j hj => key _ _ (h3 j hj).1 (h3 j hj).2⟩
      rw [getD_set _ _ _ _ _ (by rw [T.len]; exact hh), if_neg (fun e' => e e'.symm)]
      exact (h1.aside hAr fun k hk hq => T.apart x h hx hh e k hk hq).aside hAt fun k hk => (T.sr x hx k hk).2
  · rw [getD_set _ _ _ _ _ (by rw [T.len]; exact hh)] at hk
    split at hk
    · refine ⟨?_, hvt k hk⟩
      rcases hvb k hk with h1 | h1
      · exact Or.inl (T.sr h hh k h1).1
      · exact Or.inr ⟨by omega, hvlt k hk⟩
    · exact ⟨Or.inl (T.sr x hx k hk).1, (T.sr x hx k hk).2⟩
  · rw [getD_set _ _ _ _ _ (by rw [T.len]; exact hh)] at hk hq
    split at hk
    · split at hq
      · omega
      · rename_i e1 e2
        rcases hvb k hk with h1 | h1
        · exact T.apart h y hh hy e2 k h1 hq
        · have := T.old k (T.sr y hy k hq).1; omega
    · split at hq
      · rename_i e1 e2
        rcases hvb k hq with h1 | h1
        · exact T.apart x h hx hh (fun e => e1 e.symm) k hk h1
        · have := T.old k (T.sr x hx k hk).1; omega
      · exact T.apart x y hx hy hne k hk hq
  · rw [World.size_setCell]
    rcases hk with hk | hk
    · exact Nat.lt_of_lt_of_le (T.old k hk) hg.size
    · exact hk.2
/-- A TREE OVER THE FIRST N LEAVES, in the blocks of S. -/
def TreeAt (S : Set_) (w : World) (t : Nat) (g : Nat → Bs) (N : Nat) : Prop := ∃ cs, TreeC S w t cs (fun h => N / 2 ^ h) g
theorem TreeAt.aside {S U : Set_} {a b : World} {t : Nat} {g : Nat → Bs} {N : Nat} (T : TreeAt S a t g N) (hb : Aside U a b) (hU : ∀ k, S k → ¬ U k) : TreeAt S b t g N := by
  obtain ⟨cs, T⟩ := T
  exact ⟨cs, T.aside hb hU⟩
theorem TreeAt.below {S : Set_} {a b : World} {t : Nat} {g : Nat → Bs} {N : Nat} (T : TreeAt S a t g N) (hb : Below a.heap.size a b) : TreeAt S b t g N := by
  obtain ⟨cs, T⟩ := T
  exact ⟨cs, T.below hb⟩
theorem TreeAt.old {S : Set_} {w : World} {t : Nat} {g : Nat → Bs} {N : Nat} (T : TreeAt S w t g N) : ∀ k, S k → k < w.heap.size := by
  obtain ⟨cs, T⟩ := T
  exact T.old
theorem tree_new (w : World) (g : Nat → Bs) : TreeAt (fun k => k = w.heap.size) (w.alloc (.cells rows0.toArray 50)) w.heap.size g 0 := by
  have hr : ∀ h, h < 64 → rows0.getD h undef = .slice none 0 0 := fun h hh => by unfold rows0; rw [List.getD_eq_getElem?_getD, List.getElem?_replicate, if_pos hh]; rfl
  refine ⟨rows0, ?_, rfl, fun h hh => ?_, rfl, fun h hh k hk => ?_, fun h h' hh _ _ k hk => ?_, fun k hk => ?_⟩
  · unfold RowAt
    rw [List.append_nil]; exact heap_alloc_new _ _
  · refine ⟨[], ?_, by simp, fun j hj => by simp at hj⟩
    rw [hr h hh]; exact own_nil _ _ _
  · rw [hr h hh] at hk; cases hk
  · rw [hr h hh] at hk; cases hk
  · rw [hk]; simp
end Go.Proofs.YtmhlafhbdpeglaaDoor
namespace Go.Proofs.YtmhlafhbdpeglaaDoor
open Go.RowKit
/-- The call tells a hash, or that there is none. -/
def Climbs (w : World) (f : FuncId) (args : Array Value) (r : Option Bs) : Prop :=
  Calls Tryd.prog f args w fun e w' => ∃ v l, e = .returned (.tuple #[v, .bool r.isSome]) ∧ BytesAt w' v l ∧ Below w.heap.size w w' ∧ l.length ≤ 32 ∧ ∀ x, r = some x → l = x
theorem snoc_of {ls rest : List Bs} {last : Bs} (h : ls.reverse = last :: rest) : ls = rest.reverse ++ [last] := by
  have := congrArg List.reverse h
  simpa using this
theorem len_node (l r : Bs) : (nodeH Sha.shaOf l r).length = 32 := Sha.length_shaOf _
theorem ready_on {w w' : World} (h : Sha.Ready w) (hb : Below w.heap.size w w') : Sha.Ready w' := h.below hb
set_option maxRecDepth 100000 in
set_option maxHeartbeats 4000000 in
theorem climb_c : ∀ (q ls : List Bs), ls.reverse = q → All32 ls → ls.length ≤ 1000 → ∀ (w : World) (x : Value) (leaf : Bs) (m n : Nat) (s : Option Addr) (k c : Nat), Sha.Ready w → m < n → n ≤ 9223372036854775807 → BytesAt w x leaf → leaf.length = 32 → LL w (.slice s k c) ls →
    Climbs w 37 #[x, .int .i64 (m : Int), .int .i64 (n : Int), .slice s k c] (climbP Sha.shaOf leaf m n q) := by
  intro q
  induction q with
  | nil =>
    intro ls hq h32 hll w x leaf m n s k c hr hmn hn hx hlf hp
    obtain rfl : ls = [] := by simpa using hq
    obtain ⟨sx, nx, cx, rfl⟩ := hx.forms
    have HX := hide hx
    have HP := hide hp
    obtain rfl : k = 0 := hp.len.1
    have n0 : (1 : Int) ≤ (n : Int) := by omega
    have n1 : (n : Int) ≤ 9223372036854775807 := by omega
    have m0 : (0 : Int) ≤ (m : Int) := by omega
    have Hlf := hide hlf
    clear hx hp hr hlf h32 hq hll
    by_cases h1 : n = 1
    · subst h1
      have He : Hid (climbP Sha.shaOf leaf m 1 [] = some leaf) := by show _ = _; simp [climbP]
      go_enter Tryd.func37, Tryd.ntmps37
      go_wp2
      refine bodyPost_ret (v := .tuple #[.slice sx nx cx, .bool true]) (by simp [results, Tryd.results37, go_sem]) rfl ⟨_, leaf, by rw [unhide He]; rfl, unhide HX, Below.refl _ _, by have := unhide Hlf; omega, fun x hx => by rw [unhide He] at hx; exact Option.some.inj hx⟩
    · have He : Hid (climbP Sha.shaOf leaf m n [] = none) := by show _ = _; simp [climbP, h1]
      have d1 : ((n : Int) == 1) = false := by simp; omega
      go_enter Tryd.func37, Tryd.ntmps37
      go_wp2_with fail
      refine (cutlast_c w s 0 c [] (unhide HP) (by omega)).mono ?_
      rintro e w1 ⟨hb, h2, _⟩
      rw [h2 rfl]
      have HB := hide hb
      clear hb h2
      go_wp2
      refine bodyPost_ret (v := .tuple #[.slice none 0 0, .bool false]) (by simp [results, Tryd.results37, go_sem]) rfl ⟨_, [], by rw [unhide He]; rfl, bytes_nil _, unhide HB, by simp, fun x hx => by rw [unhide He] at hx; cases hx⟩
  | cons last rest ih =>
    intro ls hq h32 hll w x leaf m n s k c hr hmn hn hx hlf hp
    have hls := snoc_of hq
    have hne : ls ≠ [] := by rw [hls]; simp
    obtain ⟨sx, nx, cx, rfl⟩ := hx.forms
    have HX := hide hx
    have HP := hide hp
    have hk := hp.len
    have hk1 : ls.length = rest.length + 1 := by rw [hls]; simp
    obtain ⟨p, rfl⟩ : ∃ p, k = p + 1 := ⟨k - 1, by omega⟩
    have n0 : (1 : Int) ≤ (n : Int) := by omega
    have n1 : (n : Int) ≤ 9223372036854775807 := by omega
    have m0 : (0 : Int) ≤ (m : Int) := by omega
    have p0 : (0 : Int) ≤ (p : Int) := by omega
    have Hlf := hide hlf
    have hp2 := LL.front hp p (by omega)
    have hpl : p = rest.length := by omega
    rw [hls, hpl, List.take_left' (by simp)] at hp2
    rw [← hpl] at hp2
    have HP2 := hide hp2
    have hlast : ls.getD (ls.length - 1) [] = last := by rw [hls]; simp [List.getD_eq_getElem?_getD]
    have Hlast := hide hlast
    have h32r : All32 rest.reverse := fun b hb => h32 b (by rw [hls]; exact List.mem_append_left _ hb)
    have h32l : last.length = 32 := h32 last (by rw [hls]; simp)
    have Hih := hide (ih rest.reverse (by simp) h32r (by simp; omega))
    have H32l := hide h32l
    have HR := hide hr
    have Hk := hide (show p + 1 ≤ 1000 by omega)
    have Hne := hide hne
    clear hx hp hr hlf h32 hq hll hls hne hk hk1 hp2 hpl hlast h32r h32l ih
    by_cases h1 : n = 1
    · subst h1
      have He : Hid (climbP Sha.shaOf leaf m 1 (last :: rest) = none) := by show _ = _; simp [climbP]
      have d0 : (((p + 1 : Nat) : Int) == 0) = false := by simp; omega
      go_enter Tryd.func37, Tryd.ntmps37
      go_wp2
      refine bodyPost_ret (v := .tuple #[.slice sx nx cx, .bool false]) (by simp [results, Tryd.results37, go_sem]; omega) rfl ⟨_, leaf, by rw [unhide He]; rfl, unhide HX, Below.refl _ _, by have := unhide Hlf; omega, fun x hx => by rw [unhide He] at hx; cases hx⟩
    · have d1 : ((n : Int) == 1) = false := by simp; omega
      have hk1 := cut_lt (n := n) (by omega)
      have hk0 := cut_pos n
      have Hcut : ∀ w, Calls Tryd.prog 52 #[.int .i64 (n : Int)] w fun e w' => e = .returned (.int .i64 (cutP n : Int)) ∧ w' = w := fun w => split_c w n (by omega) hn
      have He : Hid (climbP Sha.shaOf leaf m n (last :: rest) = if m < cutP n then (climbP Sha.shaOf leaf m (cutP n) rest).map fun x => nodeH Sha.shaOf x last else (climbP Sha.shaOf leaf (m - cutP n) (n - cutP n) rest).map fun x => nodeH Sha.shaOf last x) := by show _ = _; rw [climbP, if_neg h1]
      obtain ⟨K, hK⟩ : ∃ K, cutP n = K := ⟨_, rfl⟩
      rw [hK] at hk1 hk0 Hcut He
      have k0 : (1 : Int) ≤ (K : Int) := by omega
      have k1 : (K : Int) < (n : Int) := by omega
      have Hcu := hide Hcut
      clear hK Hcut
      go_enter Tryd.func37, Tryd.ntmps37
      go_wp2_with fail
      refine (cutlast_c w s (p + 1) c ls (unhide HP) (unhide Hk)).mono ?_
      rintro e w1 ⟨hb, _, h2⟩
      obtain ⟨v1, rfl, hv1⟩ := h2 (unhide Hne)
      rw [unhide Hlast] at hv1
      rw [Nat.add_sub_cancel]
      obtain ⟨s1, c1, hf1, _⟩ := bytes_open hv1
      have HB1 := hide hb
      have HV1 := hide (hv1.below hb)
      have HX1 := hide ((unhide HX).below hb)
      have HP1 := hide ((unhide HP2).below hb)
      have HR1 := hide (ready_on (unhide HR) hb)
      rw [hf1] at HV1
      rw [hf1]
      clear hb hv1 h2 hf1
      go_wp2_with fail
      refine (unhide Hcu w1).mono ?_
      rintro e w1' ⟨rfl, hw1'⟩
      subst hw1'
      by_cases hm : m < K
      · have dm : decide ((m : Int) < (K : Int)) = true := by simp; omega
        have dmn : decide (m < K) = true := by simp; omega
        have He2 : Hid (climbP Sha.shaOf leaf m n (last :: rest) = (climbP Sha.shaOf leaf m K rest).map fun x => nodeH Sha.shaOf x last) := by show _ = _; rw [unhide He, if_pos hm]
        clear He
        go_wp2_with fail
        refine (unhide Hih w1' _ leaf m K s p c (unhide HR1) hm (by omega) (unhide HX1) (unhide Hlf) (unhide HP1)).mono ?_
        rintro e w2 ⟨v2, l2, rfl, hv2, hb2, hl2, hr2⟩
        obtain ⟨s2, n2, c2, rfl⟩ := hv2.forms
        have HV2 := hide hv2
        have Hr2 := hide hr2
        have HB2 := hide ((unhide HB1).trans (hb2.mono (unhide HB1).size))
        have HV12 := hide ((unhide HV1).below hb2)
        have HR2 := hide (ready_on (unhide HR1) hb2)
        have Hl2 := hide hl2
        clear hv2 hb2 hl2 hr2
        obtain ⟨r, hr⟩ : ∃ r, climbP Sha.shaOf leaf m K rest = r := ⟨_, rfl⟩
        rw [hr] at Hr2 He2
        rw [hr]
        clear hr
        obtain ⟨ok, hok⟩ : ∃ ok, r.isSome = ok := ⟨_, rfl⟩
        rw [hok]
        have Hok := hide hok
        clear hok
        go_wp2_with fail
        refine (joined_c w2 (unhide HR2) _ _ l2 last (unhide HV2) (unhide HV12) (by have := unhide Hl2; omega) (by have := unhide H32l; omega)).mono ?_
        rintro e w3 ⟨v3, rfl, hR3⟩
        have HR3 := hide (hR3.up (unhide HB2))
        clear hR3
        go_wp2
        refine bodyPost_ret (v := .tuple #[v3, .bool ok]) (by simp [results, Tryd.results37, go_sem]) rfl ⟨_, _, by rw [unhide He2, Option.isSome_map, unhide Hok], (unhide HR3).bytes, (unhide HR3).b, by rw [len_node]; omega, fun x hx => ?_⟩
        rw [unhide He2] at hx
        obtain ⟨y, hy, rfl⟩ := Option.map_eq_some_iff.1 hx
        rw [unhide Hr2 y hy]
      · have dm : decide ((m : Int) < (K : Int)) = false := by simp; omega
        have dmn : decide (m < K) = false := by simp; omega
        obtain ⟨m', hm'⟩ : ∃ m', m - K = m' := ⟨_, rfl⟩
        obtain ⟨n', hn'⟩ : ∃ n', n - K = n' := ⟨_, rfl⟩
        have em : (m : Int) - (K : Int) = (m' : Int) := by omega
        have en : (n : Int) - (K : Int) = (n' : Int) := by omega
        have hmn' : m' < n' := by omega
        have hn'b : n' ≤ 9223372036854775807 := by omega
        have He2 : Hid (climbP Sha.shaOf leaf m n (last :: rest) = (climbP Sha.shaOf leaf m' n' rest).map fun x => nodeH Sha.shaOf last x) := by show _ = _; rw [unhide He, if_neg hm, hm', hn']
        have Hmn := hide hmn'
        have Hnb := hide hn'b
        clear He hm' hn' hmn' hn'b
        go_wp2_with fail
        refine (unhide Hih w1' _ leaf m' n' s p c (unhide HR1) (unhide Hmn) (unhide Hnb) (unhide HX1) (unhide Hlf) (unhide HP1)).mono ?_
        rintro e w2 ⟨v2, l2, rfl, hv2, hb2, hl2, hr2⟩
        obtain ⟨s2, n2, c2, rfl⟩ := hv2.forms
        have HV2 := hide hv2
        have Hr2 := hide hr2
        have HB2 := hide ((unhide HB1).trans (hb2.mono (unhide HB1).size))
        have HV12 := hide ((unhide HV1).below hb2)
        have HR2 := hide (ready_on (unhide HR1) hb2)
        have Hl2 := hide hl2
        clear hv2 hb2 hl2 hr2
        obtain ⟨r, hr⟩ : ∃ r, climbP Sha.shaOf leaf m' n' rest = r := ⟨_, rfl⟩
        rw [hr] at Hr2 He2
        rw [hr]
        clear hr
        obtain ⟨ok, hok⟩ : ∃ ok, r.isSome = ok := ⟨_, rfl⟩
        rw [hok]
        have Hok := hide hok
        clear hok
        go_wp2_with fail
        refine (joined_c w2 (unhide HR2) _ _ last l2 (unhide HV12) (unhide HV2) (by have := unhide H32l; omega) (by have := unhide Hl2; omega)).mono ?_
        rintro e w3 ⟨v3, rfl, hR3⟩
        have HR3 := hide (hR3.up (unhide HB2))
        clear hR3
        go_wp2
        refine bodyPost_ret (v := .tuple #[v3, .bool ok]) (by simp [results, Tryd.results37, go_sem]) rfl ⟨_, _, by rw [unhide He2, Option.isSome_map, unhide Hok], (unhide HR3).bytes, (unhide HR3).b, by rw [len_node]; omega, fun x hx => ?_⟩
        rw [unhide He2] at hx
        obtain ⟨y, hy, rfl⟩ := Option.map_eq_some_iff.1 hx
        rw [unhide Hr2 y hy]
end Go.Proofs.YtmhlafhbdpeglaaDoor
namespace Go.Proofs.YtmhlafhbdpeglaaDoor
open Go.RowKit
theorem and_fin : ∀ k : Fin 102, bits .and .i64 ((k.val : Nat) : Int) ((k.val - 1 : Nat) : Int) = ((k.val &&& (k.val - 1) : Nat) : Int) := by decide +kernel
theorem pow_fin : ∀ k : Fin 102, k.val ≠ 0 → ((k.val &&& (k.val - 1) = 0) ↔ k.val = 2 ^ k.val.log2) := by decide +kernel
/-- The place is a multiple of each power of 2 that isn't above the number. -/
def Dv (f n : Nat) : Prop := ∀ j, 2 ^ j ≤ n → 2 ^ j ∣ f
theorem Dv.left {f n : Nat} (h : Dv f n) (h2 : 2 ≤ n) : Dv f (cutP n) := fun j hj => h j (by have := cut_lt h2; omega)
theorem Dv.right {f n : Nat} (h : Dv f n) (h2 : 2 ≤ n) : Dv (f + cutP n) (n - cutP n) := fun j hj => by
  have a := cut_ge h2
  have b := cut_lt h2
  refine (Nat.dvd_add_right (h j (by omega))).2 ?_
  have : 2 ^ j ≤ 2 ^ (n - 1).log2 := by show _ ≤ cutP n; omega
  exact Nat.pow_dvd_pow 2 ((Nat.pow_le_pow_iff_right (by omega)).1 this)
theorem dv_zero (n : Nat) : Dv 0 n := fun _ _ => Nat.dvd_zero _
theorem TreeAt.at {S : Set_} {w : World} {t : Nat} {g : Nat → Bs} {N : Nat} (T : TreeAt S w t g N) (h q : Nat) (hh : h < 64) (hq : q < N / 2 ^ h) : ∃ b c u, w.cell? ⟨t, h, none⟩ = some (.slice (some ⟨b, 0, none⟩) (N / 2 ^ h) c) ∧ N / 2 ^ h ≤ c ∧ w.cell? ⟨b, q, none⟩ = some u ∧ BytesAt w u (subP g h q) := by
  obtain ⟨cs, T⟩ := T
  obtain ⟨vs, h1, h2, h3⟩ := T.row h hh
  have hc := T.blk.cell h (by rw [T.len]; exact hh)
  obtain ⟨b, c, e, _, _, hcell⟩ := h1.cellAt (by rintro rfl; simp at h2; omega)
  obtain ⟨sp, c', e', hcc, _⟩ := h1.vals
  rw [e] at e' hc
  simp only [Value.slice.injEq] at e'
  rw [h2] at hc
  exact ⟨b, c, vs.getD q undef, hc, by omega, hcell q (by omega), (h3 q hq).1⟩
theorem cell_below {a b : World} {x : Addr} {v : Value} (h : a.cell? x = some v) (hb : Below a.heap.size a b) : b.cell? x = some v := by
  rw [hb.cell (World.block_lt_of_cell? a _ h)]; exact h
set_option maxRecDepth 100000 in
set_option maxHeartbeats 4000000 in
theorem over_c {S : Set_} {t : Nat} {g : Nat → Bs} {N : Nat} (hg : ∀ i, (g i).length = 32) (hN : N ≤ 101) : ∀ (n f : Nat), 1 ≤ n → Dv f n → f + n ≤ N → ∀ w, Sha.Ready w → TreeAt S w t g N →
    GivesB w 30 #[.pointer (some ⟨t, 0, none⟩), .int .i64 (f : Int), .int .i64 (n : Int)] (rootP Sha.shaOf g f n) := by
  intro n
  induction n using Nat.strongRecOn with
  | ind n ih =>
    intro f h1 hd hf w hr T
    obtain ⟨m, hm⟩ : ∃ m, n - 1 = m := ⟨_, rfl⟩
    have n1 : (1 : Int) ≤ (n : Int) := by omega
    have n2 : (n : Int) ≤ 101 := by omega
    have f0 : (0 : Int) ≤ (f : Int) := by omega
    have f1 : (f : Int) ≤ 101 := by omega
    have em : (n : Int) - 1 = (m : Int) := by omega
    have ha := and_fin ⟨n, by omega⟩
    have hpf := pow_fin ⟨n, by omega⟩ (by show n ≠ 0; omega)
    simp only [hm] at ha hpf
    obtain ⟨z, hz⟩ : ∃ z, n &&& m = z := ⟨_, rfl⟩
    rw [hz] at ha hpf
    by_cases hp : n = 2 ^ n.log2
    · obtain rfl : z = 0 := hpf.2 hp
      obtain ⟨j, hj⟩ : ∃ j, n.log2 = j := ⟨_, rfl⟩
      rw [hj] at hp
      have hj6 : j ≤ 6 := by
        rcases Nat.lt_or_ge 6 j with h | h
        · have := Nat.pow_le_pow_right (show 0 < 2 by omega) h; omega
        · exact h
      obtain ⟨q, hq⟩ := hd j (by omega)
      have hq2 : f = q * 2 ^ j := by rw [hq, Nat.mul_comm]
      have hqN : q < N / 2 ^ j := by
        rw [Nat.lt_div_iff_mul_lt (Nat.pow_pos (by omega))]
        omega
      obtain ⟨b, c, u, hc1, hc, hc2, hu⟩ := T.at j q (by omega) hqN
      have hres : subP g j q = rootP Sha.shaOf g f n := by unfold subP; rw [← hq2, ← hp]
      rw [hres] at hu
      obtain ⟨su, nu, cu, rfl⟩ := hu.forms
      have HU := hide hu
      have Hlen : Hid ((rootP Sha.shaOf g f n).length ≤ 1000000) := by show _ ≤ _; rw [len_root Sha.length_shaOf _ _ fun i _ _ => hg i]; omega
      have hL : ((Lib.bitLen n : Nat) : Int) = ((j + 1 : Nat) : Int) := by rw [bitlen_log (by omega) (by omega), hj]
      have e2 : ((j + 1 : Nat) : Int) - 1 = (j : Int) := by omega
      have hfd : (f : Int) / 2 ^ j = (q : Int) := by
        have : ((f / 2 ^ j : Nat) : Int) = (q : Int) := by rw [hq2, Nat.mul_div_cancel _ (Nat.pow_pos (by omega))]
        simpa using this
      have j0 : (0 : Int) ≤ (j : Int) := by omega
      have j1 : (j : Int) ≤ 6 := by omega
      have j2 : (j : Int) < 64 := by omega
      have j3 : j < 64 := by omega
      obtain ⟨M, hM⟩ : ∃ M, N / 2 ^ j = M := ⟨_, rfl⟩
      rw [hM] at hc1 hqN hc
      have q0 : (0 : Int) ≤ (q : Int) := by omega
      have q1 : (q : Int) < (M : Int) := by omega
      have uw : IntKind.u64.wrap (n : Int) = (n : Int) := IntWalk.u64_in _ (by omega)
      have HL := hide hL
      have hb : n ≤ 101 := by omega
      clear hL hM hu hres hq hq2 hqN hp hj hz hpf hd hf ih T hr hj6 hg hN hm
      go_enter Tryd.func30, Tryd.ntmps30
      go_wp2_with fail
      refine (Tryd.bits_Len (n : Int) w (by omega) (by omega)).mono ?_
      rintro e w' ⟨rfl, rfl⟩
      rw [Int.toNat_natCast, unhide HL]
      clear HL
      go_wp2
      go_region_held3 (fun w'' => w''.cell? ⟨t, j, none⟩ = some (.slice (some ⟨b, 0, none⟩) M c) ∧ w''.cell? ⟨b, q, none⟩ = some (.slice su nu cu)) (go_keep)
        ((go_at_call 51; refine (bclone_c _ _ _ ((unhide HU).below (Below.refl _ _).drew) (unhide Hlen)).mono ?_; rintro e w2 ⟨v2, rfl, hR2⟩; have k1 := cell_below (show w'.drew.cell? _ = _ from hc1) hR2.b; have k2 := cell_below (show w'.drew.cell? _ = _ from hc2) hR2.b; have HR2 := hide (hR2.up (Below.refl _ _).drew); clear hR2))
      go_wp2
      go_ret
      exact ⟨_, rfl, unhide HR2⟩
    · have hz0 : z ≠ 0 := fun e => hp (hpf.1 e)
      have dz : ((z : Int) == 0) = false := by simp; omega
      have hn2 : 2 ≤ n := by
        rcases (by omega : n = 1 ∨ 2 ≤ n) with h | h
        · subst h; exact absurd rfl hp
        · exact h
      have hk1 := cut_lt hn2
      have hk0 := cut_pos n
      have Hi1 := hide (ih (cutP n) hk1 f hk0 (hd.left hn2) (by omega))
      have Hi2 := hide (ih (n - cutP n) (by omega) (f + cutP n) (by omega) (hd.right hn2) (by omega))
      have He := hide (root_more Sha.shaOf g f hn2)
      have Hcu := hide (fun w => split_c w n hn2 (by omega))
      have Hl1 : Hid ((rootP Sha.shaOf g f (cutP n)).length = 32) := len_root Sha.length_shaOf _ _ fun i _ _ => hg i
      have Hl2 : Hid ((rootP Sha.shaOf g (f + cutP n) (n - cutP n)).length = 32) := len_root Sha.length_shaOf _ _ fun i _ _ => hg i
      obtain ⟨K, hK⟩ : ∃ K, cutP n = K := ⟨_, rfl⟩
      rw [hK] at hk1 hk0 Hi1 Hi2 He Hcu Hl1 Hl2
      obtain ⟨n', hn'⟩ : ∃ n', n - K = n' := ⟨_, rfl⟩
      obtain ⟨f', hf'⟩ : ∃ f', f + K = f' := ⟨_, rfl⟩
      rw [hn', hf'] at Hi2 He Hl2
      have k0 : (1 : Int) ≤ (K : Int) := by omega
      have k1 : (K : Int) < (n : Int) := by omega
      have e1 : (n : Int) - (K : Int) = (n' : Int) := by omega
      have e2 : (f : Int) + (K : Int) = (f' : Int) := by omega
      have HT := hide T
      have HR := hide hr
      clear hK hn' hf' hpf hz hz0 hp hd hf ih T hr hg hN hm hn2
      go_enter Tryd.func30, Tryd.ntmps30
      go_wp2_with fail
      refine (unhide Hcu w).mono ?_
      rintro e w' ⟨rfl, hw'⟩
      subst hw'
      go_wp2_with fail
      refine (unhide Hi1 w' (unhide HR) (unhide HT)).mono ?_
      rintro e w1 ⟨v1, rfl, hR1⟩
      have HR1 := hide (ready_on (unhide HR) hR1.b)
      have HT1 := hide ((unhide HT).below hR1.b)
      have HV1 := hide hR1.bytes
      have HB1 := hide hR1.b
      clear hR1
      go_wp2_with fail
      refine (unhide Hi2 w1 (unhide HR1) (unhide HT1)).mono ?_
      rintro e w2 ⟨v2, rfl, hR2⟩
      have HR2 := hide (ready_on (unhide HR1) hR2.b)
      have HV12 := hide ((unhide HV1).below hR2.b)
      have HV2 := hide hR2.bytes
      have HB2 := hide ((unhide HB1).trans (hR2.b.mono (unhide HB1).size))
      clear hR2
      go_wp2_with fail
      refine (joined_c w2 (unhide HR2) _ _ _ _ (unhide HV12) (unhide HV2) (by have := unhide Hl1; omega) (by have := unhide Hl2; omega)).mono ?_
      rintro e w3 ⟨v3, rfl, hR3⟩
      have HF : Hid (Row w' w3 v3 (rootP Sha.shaOf g f n)) := by show Row _ _ _ _; rw [unhide He]; exact hR3.up (unhide HB2)
      clear hR3
      go_wp2
      go_ret
      exact ⟨_, rfl, unhide HF⟩
end Go.Proofs.YtmhlafhbdpeglaaDoor
