/-
  Plain words on stores (layer 15): opened again beside the reference; opened on a new plate.
  Changes in memory; what the calls of a store promise: the record Store, over a plate's; a plate and a store on it.
  What an argument's reading gives the walks: a slice of changes.
  The walks of the landed store's small functions: addNumber, addPart, readNumber.
  The walks of the landed store's readNumber, addPart, isGood, areGood, inBytes.
-/
import Derived.Test.YtbjgknoipbekoaaGreatQ18
import Derived.Test.YtbjgknoipbekoaaGreatQ16
import Derived.Test.YtbjgknoipbekoaaGreatQ2
import Derived.Test.YtbjgknoipbekoaaGreatQ0
import Derived.Deep.Slices
import Derived.Test.YtbjgknoipbekoaaGreatQ3
import Derived.BigRegion
import Derived.Deep.RegionLaw
import Derived.Deep.Cut
namespace Go.Proofs.YtbjgknoipbekoaaGreat
/-- Opened again: nothing is written, and it has the same. -/
theorem Beside.again {T : Nat} {s : PS} {S : SS} {r : RS} (H : Beside T s S r) (hT : T + 1 < 4294967296) : ∃ S', openS s S.half = (0, some S', s) ∧ S'.half = S.half ∧ Beside (T + 1) s S' r := by
  have hL := H.live
  have hcon : contentS s = s.safe := by unfold contentS; rw [hL.on.rest.loose]; rfl
  have hm : topM s = S.gen := by unfold topM; rw [hcon]; exact hL.on.marks
  have hg := hL.on.g0
  obtain ⟨o1, o2⟩ := hL.on.open_ hT
  refine ⟨⟨S.half, S.gen, openL s (fromG S.half S.gen) S.half S.gen, S.pairs, false⟩, ?_, rfl, ⟨o1, H.left, rfl, H.half, H.gen, ?_, H.pairs⟩⟩
  · unfold openS
    rw [hm, if_neg (by omega), o2, if_neg hL.on.ne, hL.on.lead]
  · rw [H.used]
    show usedR S.log.rs = usedR (openL s (fromG S.half S.gen) S.half S.gen).rs
    rw [o2]
theorem bare_left {h g T : Nat} {s : PS} {qs : List (Bs × Bs)} (H : Bare h g T s) (hg : g + 1 < 2147483648) (hT : T + 1 < 4294967296) (hq : SortedP qs) (hqr : RightP qs) (hb : (wrL (allP qs)).length ≤ 65536) (hr : needs (wrL (allP qs)).length ≤ h) (hlf : s.left < 0) :
    (beginR s h (g + 1) (wrL (allP qs))).1.left < 0 ∧ usedR (beginR s h (g + 1) (wrL (allP qs))).2.2.rs = needs (wrL (allP qs)).length := by
  obtain ⟨_, O, _, _, _, e4, e5⟩ := bare_ok H hg hT hq hqr hb hr (Or.inl hlf)
  refine ⟨e5 hlf, ?_⟩
  rw [e4]
  exact (used_snoc15 _ _ []).trans (Nat.zero_add _)
/-- Opened on a plate that has nothing. -/
theorem Bare.opened {h T : Nat} {s : PS} (H : Bare h 0 T s) (hT : T + 1 < 4294967296) (hlf : s.left < 0) : ∃ S s', openS s h = (0, some S, s') ∧ S.half = h ∧ Beside (T + 1) s' S ⟨h, 1, 1, []⟩ := by
  have hcon : contentS s = s.safe := by unfold contentS; rw [H.rest.loose]; rfl
  have hm : topM s = 0 := by unfold topM; rw [hcon]; exact H.marks
  have hh := H.h1
  have hn1 : needs (wrL (allP [])).length = 1 := rfl
  have hn : (wrL (allP [])).length = 0 := rfl
  have hq : SortedP [] := List.Pairwise.nil
  have hqr : RightP [] := fun x hx => by cases hx
  obtain ⟨a1, a2⟩ := H.begin_ (qs := []) (by omega) hT hq hqr (by omega) (by omega) (Or.inl hlf)
  obtain ⟨b1, b2⟩ := bare_left (qs := []) H (by omega) hT hq hqr (by omega) (by omega) hlf
  refine ⟨⟨h, 1, (beginR s h 1 (wrL (allP []))).2.2, [], false⟩, (beginR s h 1 (wrL (allP []))).1, ?_, rfl, ⟨a2, b1, rfl, rfl, rfl, b2.symm, rfl⟩⟩
  unfold openS
  rw [if_pos hm]
  have a1' : (beginR s h 1 (wrL (allP []))).2.1 = 0 := a1
  rw [a1', if_pos rfl]
/-- A new plate, opened. -/
theorem new_opened {n : Nat} (h4 : 4 ≤ n) (hn : n ≤ 16384) : ∃ S s', openS (newS n) ((n - 2) / 2) = (0, some S, s') ∧ S.half = (n - 2) / 2 ∧ Beside 1 s' S ⟨(n - 2) / 2, 1, 1, []⟩ := by
  have hb : Bare ((n - 2) / 2) 0 0 (newS n) := new_bare (n := n) (by omega) (by omega) (rest_new n 0 0 1 hn (by omega) (by omega) (by omega)).ok rfl rfl rfl
  exact hb.opened (by omega) (show (-1 : Int) < 0 by decide)
end Go.Proofs.YtbjgknoipbekoaaGreat
namespace Go.Proofs.YtbjgknoipbekoaaGreat
open Go.RowKit
/-- A change's three cells, all of it in blocks of K. -/
structure Ch3 (K : Set_) (w : World) (g o : Nat) (c : Ch) (kv vv : Value) : Prop where
  c0 : w.cell? ⟨g, o, none⟩ = some kv
  c1 : w.cell? ⟨g, o + 1, none⟩ = some vv
  c2 : w.cell? ⟨g, o + 2, none⟩ = some (.bool c.gone)
  key : ElS K w kv c.key
  val : ElS K w vv c.val
/-- A slice of changes, all of it in blocks of K. -/
structure ChsAt (K : Set_) (w : World) (x : Value) (l : List Ch) : Prop where
  form : ∃ sp c, x = .slice sp l.length c ∧ l.length ≤ c ∧ (sp = none → c = 0)
  at_ : ∀ (i : Nat) (c : Ch), l[i]? = some c → ∃ g o m cp, x = .slice (some ⟨g, o, none⟩) m cp ∧ K g ∧ g < w.heap.size ∧ ∃ kv vv, Ch3 K w g (o + i * 3) c kv vv
theorem Ch3.aside {K S : Set_} {a b : World} {g o : Nat} {c : Ch} {kv vv : Value} (h : Ch3 K a g o c kv vv) (hb : Aside S a b) (hK : ∀ k, S k → ¬ K k) (hg : K g) : Ch3 K b g o c kv vv :=
  ⟨cell_aside h.c0 hb fun hS => hK g hS hg, cell_aside h.c1 hb fun hS => hK g hS hg, cell_aside h.c2 hb fun hS => hK g hS hg, h.key.aside hb hK, h.val.aside hb hK⟩
theorem ChsAt.aside {K S : Set_} {a b : World} {x : Value} {l : List Ch} (h : ChsAt K a x l) (hb : Aside S a b) (hK : ∀ k, S k → ¬ K k) : ChsAt K b x l := by
  refine ⟨h.form, fun i c hi => ?_⟩
  obtain ⟨g, o, m, cp, e, hg, hl, kv, vv, h3⟩ := h.at_ i c hi
  exact ⟨g, o, m, cp, e, hg, Nat.lt_of_lt_of_le hl hb.size, kv, vv, h3.aside hb hK hg⟩
theorem ChsAt.below {K : Set_} {a b : World} {x : Value} {l : List Ch} (h : ChsAt K a x l) (hb : Below a.heap.size a b) : ChsAt K b x l := h.aside (S := none_) (Aside.of_below hb) fun _ h => h.elim
theorem ElS.mono' {V V' : Set_} {a : World} {v : Value} {l : Bs} (h : ElS V a v l) (hV : ∀ k, k < a.heap.size → V k → V' k) : ElS V' a v l := ⟨h.at_, fun hne k hk => hV k (ValsAt.old h.at_ (by simpa using hne) k hk) (h.blk hne k hk)⟩
theorem ChsAt.mono {K K' : Set_} {a : World} {x : Value} {l : List Ch} (h : ChsAt K a x l) (hK : ∀ k, k < a.heap.size → K k → K' k) : ChsAt K' a x l := by
  refine ⟨h.form, fun i c hi => ?_⟩
  obtain ⟨g, o, m, cp, e, hg, hl, kv, vv, h3⟩ := h.at_ i c hi
  exact ⟨g, o, m, cp, e, hK g hl hg, hl, kv, vv, ⟨h3.c0, h3.c1, h3.c2, h3.key.mono' hK, h3.val.mono' hK⟩⟩
/-- One change of the slice. -/
theorem ChsAt.one {K : Set_} {w : World} {sp : Option Addr} {n cp i : Nat} {l : List Ch} (h : ChsAt K w (.slice sp n cp) l) (hi : i < l.length) : ∃ c g o s1 c1 s2 c2, l[i]? = some c ∧ sp = some ⟨g, o, none⟩ ∧ K g ∧ g < w.heap.size ∧ Ch3 K w g (o + i * 3) c (.slice s1 c.key.length c1) (.slice s2 c.val.length c2) := by
  obtain ⟨g, o, m, cp', e, hg, hl, kv, vv, h3⟩ := h.at_ i l[i] (List.getElem?_eq_getElem hi)
  simp only [Value.slice.injEq] at e
  obtain ⟨rfl, _, _⟩ := e
  obtain ⟨s1, c1, e1, _⟩ := bytes_open h3.key.at_
  obtain ⟨s2, c2, e2, _⟩ := bytes_open h3.val.at_
  subst e1
  subst e2
  exact ⟨l[i], g, o, s1, c1, s2, c2, List.getElem?_eq_getElem hi, rfl, hg, hl, h3⟩
/-- The keys that begin so. -/
def keysP (ps : List (Bs × Bs)) (pre : Bs) : List Bs := (ps.map (·.1)).filter fun k => pre.isPrefixOf k
/-- A store in memory, over the plate p: S the blocks of its own that its calls may write, R those that they only read. -/
structure Store (PAt : Set_ → Set_ → World → Value → PS → Prop) (SAt : Set_ → Set_ → World → Value → Value → SS → Prop) : Prop where
  ptr : ∀ {S R w t p G}, SAt S R w t p G → ∃ a, t = .pointer (some a)
  old : ∀ {S R w t p G}, SAt S R w t p G → ∀ k, S k ∨ R k → k < w.heap.size
  kept : ∀ {S R T w w' t p G}, SAt S R w t p G → Aside T w w' → (∀ k, T k → ¬ S k ∧ ¬ R k) → SAt S R w' t p G
  get : ∀ {S R w t p G} (x : Value) (k : Bs), SAt S R w t p G → BytesAt w x k → k.length ≤ 1000000 → Calls Tryz.prog 15 #[t, x] w fun e w' => ∃ v, e = .returned (.tuple #[v, .bool (getP G.pairs k).isSome]) ∧ OwnB w' w.heap.size v ((getP G.pairs k).getD []) ∧ Below w.heap.size w w'
  keys : ∀ {S R w t p G} (x : Value) (pre : Bs), SAt S R w t p G → BytesAt w x pre → pre.length ≤ 1000000 → Calls Tryz.prog 17 #[t, x] w fun e w' => ∃ v vs, e = .returned v ∧ ListsAt w.heap.size w' v vs (keysP G.pairs pre) ∧ Below w.heap.size w w'
  gen : ∀ {S R w t p G}, SAt S R w t p G → Calls Tryz.prog 20 #[t] w fun e w' => e = .returned (.int .i64 (G.gen : Int)) ∧ Below w.heap.size w w'
  open_ : ∀ {S R w p s} (h T : Nat) (ps : List (Bs × Bs)), PAt S R w p s → AtRest h T s ps → T + 1 < 4294967296 → h = (s.safe.length - 2) / 2 →
    Calls Tryz.prog 10 #[p] w fun e w' => ∃ v, e = .returned (.tuple #[v, .int .i64 (openS s h).1]) ∧ ∃ S' R' S2 R2, PAt S' R' w' p (openS s h).2.2 ∧ (∀ k, S' k → S k ∨ w.heap.size ≤ k) ∧ (∀ k, R' k → R k ∨ w.heap.size ≤ k) ∧ Aside S w w' ∧ (∀ G, (openS s h).2.1 = some G → SAt S2 R2 w' v p G) ∧ ((openS s h).2.1 = none → v = .pointer none) ∧ (∀ k, S2 k → S k ∨ w.heap.size ≤ k) ∧ (∀ k, R2 k → w.heap.size ≤ k) ∧ (∀ k, S2 k → ¬ S' k ∧ ¬ R' k) ∧ (∀ k, S' k → ¬ R2 k)
  commit : ∀ {S R S2 R2 w t p s G} (K : Set_) (x : Value) (l : List Ch) (T : Nat), PAt S R w p s → SAt S2 R2 w t p G → (∀ k, S2 k → ¬ S k ∧ ¬ R k) → (∀ k, S k → ¬ R2 k) → ChsAt K w x l → (∀ k, K k → ¬ S k ∧ ¬ S2 k) → l.length ≤ 1000 → G.half = (s.safe.length - 2) / 2 → (G.closed = false → Live G.half G.gen T s G.log G.pairs ∧ T + 1 < 4294967296) →
    Calls Tryz.prog 14 #[t, x] w fun e w' => e = .returned (.int .i64 (commitS G s l).1) ∧ ∃ S' R' S2' R2', PAt S' R' w' p (commitS G s l).2.2 ∧ SAt S2' R2' w' t p (commitS G s l).2.1 ∧ (∀ k, S' k ∨ S2' k → (S k ∨ S2 k) ∨ w.heap.size ≤ k) ∧ (∀ k, R' k → R k ∨ w.heap.size ≤ k) ∧ (∀ k, R2' k → R2 k ∨ w.heap.size ≤ k) ∧ (∀ k, S2' k → ¬ S' k ∧ ¬ R' k) ∧ (∀ k, S' k → ¬ R2' k) ∧ Aside (fun k => S k ∨ S2 k) w w'
end Go.Proofs.YtbjgknoipbekoaaGreat
namespace Go.Proofs.YtbjgknoipbekoaaGreat
open Go.ChangeShapes Go.WideShapes Go.ChangeAt Go.RowKit
theorem bytes_of15 {H : Type} {enc : TypeId × Value → H} {W : World} {fuel : Nat} {v : Value} {x : DataW H × List MemPlace} (hf : DataW.trod enc Tryz.prog W 0 (fun _ => true) true fuel 23 [v] = some x) : ∃ b : Bs, BytesAt W v b := by
  obtain ⟨sb, lb, cb, rfl⟩ : ∃ sb lb cb, v = .slice sb lb cb := by
    rcases DataW.trod_slice Tryz.underlying23 hf with ⟨e, _⟩ | ⟨a, len, cap, _, _, _, _, e, _⟩
    · simp only [List.cons.injEq, and_true] at e
      exact ⟨_, _, _, e⟩
    · simp only [List.cons.injEq, and_true] at e
      exact ⟨_, _, _, e⟩
  exact bytes_arg (show DataW.trod enc Tryz.prog W 0 (fun _ => true) true fuel 23 (Value.slice sb lb cb).cells.toList = some x from hf)
set_option maxRecDepth 100000 in
/-- WHAT A READING OF A SLICE OF CHANGES GIVES. -/
theorem chs_of {H : Type} {enc : TypeId × Value → H} {W : World} {v : Value} {fuel : Nat} {x : DataW H × List MemPlace}
    (hf : DataW.trod enc Tryz.prog W 0 (fun _ => true) true fuel 36 [v] = some x) : ∃ l : List Ch, ChsAt (fun j => j < W.heap.size) W v l ∧ l.length ≤ 9223372036854775807 := by
  rcases Go.Deep.open_slice Tryz.underlying36 hf with ⟨hcs, _⟩ | ⟨y, len, cap, m, k, D, Pl, hcs, _, hl, hm, hmm, _, hx⟩
  · obtain rfl : v = .slice none 0 0 := by simpa using hcs
    exact ⟨[], ⟨⟨none, 0, rfl, Nat.le_refl _, fun _ => rfl⟩, fun i c h => by simp at h⟩, by simp⟩
  · obtain rfl : v = .slice (some y) len cap := by simpa using hcs
    have hmc : m = cap := by simpa using hmm
    subst hmc
    have ce : Tryz.prog.cellsOf 72 = 3 := by kernel_rfl
    have each : ∀ i, i < len → ∃ q : Ch × Value × Value, W.cell? (y.add (i * 3 + 0)) = some q.2.1 ∧ W.cell? (y.add (i * 3 + 1)) = some q.2.2 ∧ W.cell? (y.add (i * 3 + 2)) = some (.bool q.1.gone) ∧ BytesAt W q.2.1 q.1.key ∧ BytesAt W q.2.2 q.1.val := by
      intro i hi
      obtain ⟨cs', h1, h2⟩ := hx i (by omega)
      rw [ce] at h1
      obtain ⟨_, hlen, hcell⟩ := World.cells?_some h1
      obtain ⟨xs, k, hk, hxy, _, hxl, hfs⟩ := DataW.trod_struct Tryz.underlying72 h2
      match xs, hxl, cs', hlen with
      | [y0, y1, y2], _, [v0, v1, v2], _ =>
        have q4 : Tryz.prog.cellsOf 4 = 1 := by kernel_rfl
        have qb : Tryz.prog.cellsOf 23 = 1 := by kernel_rfl
        have g0 : DataW.trod enc Tryz.prog W 0 (fun _ => true) true k 23 [v0] = some y0 := by
          have h : DataW.trod enc Tryz.prog W 0 (fun _ => true) true k 23 (([v0, v1, v2].drop 0).take (Tryz.prog.cellsOf 23)) = [y0, y1, y2][0]? := hfs 0 _ rfl
          rw [qb] at h
          exact h
        have g1 : DataW.trod enc Tryz.prog W 0 (fun _ => true) true k 23 [v1] = some y1 := by
          have h : DataW.trod enc Tryz.prog W 0 (fun _ => true) true k 23 (([v0, v1, v2].drop 1).take (Tryz.prog.cellsOf 23)) = [y0, y1, y2][1]? := hfs 1 _ rfl
          rw [qb] at h
          exact h
        have g2 : DataW.trod enc Tryz.prog W 0 (fun _ => true) true k 4 [v2] = some y2 := by
          have h : DataW.trod enc Tryz.prog W 0 (fun _ => true) true k 4 (([v0, v1, v2].drop 2).take (Tryz.prog.cellsOf 4)) = [y0, y1, y2][2]? := hfs 2 _ rfl
          rw [q4] at h
          exact h
        obtain ⟨z2, e2, _⟩ := DataW.trod_bool Tryz.underlying4 g2
        obtain ⟨kb, hkb⟩ := bytes_of15 g0
        obtain ⟨vb, hvb⟩ := bytes_of15 g1
        simp only [List.cons.injEq, and_true] at e2
        subst e2
        have c0 := hcell 0 (by omega)
        have c1 := hcell 1 (by omega)
        have c2 := hcell 2 (by omega)
        rw [Go.Deep.add_add] at c0 c1 c2
        exact ⟨(⟨kb, vb, z2⟩, v0, v1), c0, c1, c2, hkb, hvb⟩
    haveI : Inhabited (Ch × Value × Value) := ⟨(⟨[], [], false⟩, undef, undef)⟩
    obtain ⟨f, hfl⟩ := Go.Deep.choose_lt each
    have hll : ((List.range len).map fun i => (f i).1).length = len := by simp
    refine ⟨(List.range len).map fun i => (f i).1, ⟨⟨some y, m, by rw [hll], by rw [hll]; exact hl, fun h => (by cases h)⟩, fun i c hi => ?_⟩, by rw [hll]; simp only [maxLen] at hm; omega⟩
    have hil : i < len := by
      have := (List.getElem?_eq_some_iff.1 hi).1
      rw [hll] at this; exact this
    have c0 := (hfl 0 (by omega)).1
    obtain ⟨b, o, s⟩ := y
    have hs : s = none := by
      cases s with
      | none => rfl
      | some k => simp [Addr.add, World.cell?] at c0; split at c0 <;> simp at c0
    subst hs
    rw [List.getElem?_map, List.getElem?_range hil] at hi
    simp only [Option.map_some, Option.some.injEq] at hi
    subst hi
    obtain ⟨h1, h2, h3, h4, h5⟩ := hfl i hil
    rw [Addr.add_mid] at h1 h2 h3
    have hbl : b < W.heap.size := World.block_lt_of_cell? _ _ h1
    exact ⟨b, o, _, m, rfl, hbl, hbl, (f i).2.1, (f i).2.2, ⟨h1, by rw [Nat.add_assoc]; exact h2, by rw [Nat.add_assoc]; exact h3, ⟨h4, fun hne k hk => ValsAt.old h4 (by simpa using hne) k hk⟩, ⟨h5, fun hne k hk => ValsAt.old h5 (by simpa using hne) k hk⟩⟩⟩
end Go.Proofs.YtbjgknoipbekoaaGreat
namespace Go.Proofs.YtbjgknoipbekoaaGreat
open Go.RowKit
/-- The bytes of a number, the highest first. -/
def BigOf (n : Int) (B : Bs) : Prop := ∀ i, i < B.length → IntKind.u8.wrap (n / 2 ^ (8 * (B.length - 1 - i))) = ((B.getD i 0).toNat : Int)
theorem bigof_nat (n size : Nat) : BigOf (n : Int) (bigB n size) := by
  intro i hi
  rw [big_len] at hi
  have h := big_at n size i hi
  rw [big_len, List.getD_eq_getElem?_getD, h, Option.getD_some]
  have h2 := byte_of n (size - 1 - i) _ rfl
  rw [← h2, ← pow_sh]
  simp
theorem bigof_not (g size : Nat) : BigOf (-(g : Int) - 1) ((bigB g size).map fun x => 255 - x) := by
  intro i hi
  rw [List.length_map, big_len] at hi
  have h := big_at g size i hi
  rw [List.length_map, big_len, List.getD_eq_getElem?_getD, List.getElem?_map, h, Option.map_some, Option.getD_some]
  obtain ⟨d, hd⟩ : ∃ d, size - 1 - i = d := ⟨_, rfl⟩
  rw [hd]
  obtain ⟨q, hq⟩ : ∃ q, g / 256 ^ d = q := ⟨_, rfl⟩
  have e1 : (-(g : Int) - 1) / 2 ^ (8 * d) = -(q : Int) - 1 := by
    have hp : (2 : Int) ^ (8 * d) = ((256 ^ d : Nat) : Int) := by rw [← pow_sh]; simp
    rw [hp]
    have hpos : 0 < 256 ^ d := Nat.pow_pos (by omega)
    have hm := Nat.div_add_mod g (256 ^ d)
    have hlt := Nat.mod_lt g hpos
    rw [hq] at hm
    have e : -(g : Int) - 1 = ((256 ^ d - 1 - g % 256 ^ d : Nat) : Int) + ((256 ^ d : Nat) : Int) * (-(q : Int) - 1) := by
      have hm' : ((256 ^ d : Nat) : Int) * (q : Int) + ((g % 256 ^ d : Nat) : Int) = (g : Int) := by exact_mod_cast hm
      rw [Int.mul_sub, Int.mul_neg]
      omega
    rw [e, Int.add_mul_ediv_left _ _ (by omega), Int.ediv_eq_zero_of_lt (by omega) (by omega)]
    omega
  rw [e1, IntKind.wrap_u8', hq]
  have h3 : (255 - UInt8.ofNat q).toNat = 255 - q % 256 := by
    rw [UInt8.toNat_sub_of_le _ _ (by
      rw [UInt8.le_iff_toNat_le, UInt8.toNat_ofNat']
      have : (255 : UInt8).toNat = 255 := rfl
      omega), UInt8.toNat_ofNat']
    have : (255 : UInt8).toNat = 255 := rfl
    omega
  rw [h3]
  omega
theorem bigof_step {n : Int} {B : Bs} (h : BigOf n B) {i : Nat} (hi : i < B.length) : ∃ x : UInt8, IntKind.u8.wrap (n / 2 ^ (8 * (B.length - 1 - i))) = (x.toNat : Int) ∧ B.take (i + 1) = B.take i ++ [x] := by
  refine ⟨B.getD i 0, h i hi, ?_⟩
  rw [List.take_add_one, List.getD_eq_getElem?_getD, List.getElem?_eq_getElem hi]
  rfl
set_option maxRecDepth 100000 in
set_option maxHeartbeats 2000000 in
theorem saddn_room (w : World) (g : Nat) (l B : Bs) (K size : Nat) (n : Int) (hK : l.length = K) (hr : RoomAt w g l) (hB : BigOf n B) (hBl : B.length = size) (hn1 : -4611686018427387904 ≤ n) (hn2 : n ≤ 4611686018427387904) (hs1 : 1 ≤ size) (hs : size ≤ 8) (hf : K + size ≤ 64) :
    Calls Tryz.prog 89 #[.slice (some ⟨g, 0, none⟩) K 64, .int .i64 (size : Int), .int .i64 n] w fun e w' => e = .returned (.slice (some ⟨g, 0, none⟩) (K + size) 64) ∧ RoomAt w' g (l ++ B) ∧ Aside (fun k => k = g) w w' := by
  have HR0 := hide hr
  have HK := hide hK
  have HB := hide hB
  have HBL := hide hBl
  obtain ⟨s1, hs1'⟩ : ∃ s1, size - 1 = s1 := ⟨_, rfl⟩
  have e0 : (size : Int) - 1 = (s1 : Int) := by omega
  obtain ⟨sh0, hsh0⟩ : ∃ s, 8 * s1 = s := ⟨_, rfl⟩
  have e00 : (8 : Int) * (s1 : Int) = (sh0 : Int) := by omega
  have hsb : sh0 ≤ 56 := by omega
  have HS0 : Hid (sh0 = 8 * (size - 1)) := by show _ = _; omega
  clear hr hK hB hBl hs1' hsh0
  go_enter Tryz.func89, Tryz.ntmps89
  go_wp2
  go_loopw [0, 7] (fun bb ii wr => ∃ (i : Nat) (sh : Int), i ≤ size ∧ bb = .slice (some ⟨g, 0, none⟩) (K + i) 64 ∧ ii = .int .i64 sh ∧ -8 ≤ sh ∧ sh ≤ 56 ∧ Hid (sh = (8 * ((size : Int) - 1 - (i : Int)))) ∧ Hid (RoomAt wr g (l ++ B.take i)) ∧ Hid (Aside (fun k => k = g) w wr)) (fun _ ii _ => (intOf ii + 8).toNat)
  case atStart => exact ⟨0, (sh0 : Int), by omega, rfl, rfl, by omega, by omega, by show _ = _; have := unhide HS0; omega, by show RoomAt _ _ _; rw [List.take_zero, List.append_nil]; exact unhide HR0, Aside.refl _ _⟩
  case round =>
    clear HR0 e00 e0 HS0
    obtain ⟨i, sh, hi, rfl, rfl, hsl, hsu, HSH, HR, HA⟩ := hrel
    by_cases hlt : i < size
    · obtain ⟨z, hz⟩ : ∃ z : Nat, 8 * (size - 1 - i) = z := ⟨_, rfl⟩
      obtain rfl : sh = (z : Int) := by have := unhide HSH; omega
      have f1 : decide ((0 : Int) ≤ (z : Int)) = true := by simp
      obtain ⟨q, hq⟩ : ∃ q : Int, n / 2 ^ z = q := ⟨_, rfl⟩
      obtain ⟨x, hx, HST0⟩ := bigof_step (unhide HB) (i := i) (by have := unhide HBL; omega)
      rw [unhide HBL, hz, hq] at hx
      have HST := hide HST0
      have hpos : (0 : Int) < 2 ^ z := Int.pow_pos (by omega)
      have hqb1 : -4611686018427387904 ≤ q := by
        rw [← hq]
        refine (Int.le_ediv_iff_mul_le hpos).2 ?_
        have : (1 : Int) ≤ 2 ^ z := hpos
        calc (-4611686018427387904 : Int) * 2 ^ z ≤ -4611686018427387904 * 1 := Int.mul_le_mul_of_nonpos_left (by omega) this
          _ ≤ n := by omega
      have hqb2 : q ≤ 4611686018427387904 := by
        rw [← hq]
        refine Int.ediv_le_of_le_mul hpos ?_
        have : (1 : Int) ≤ 2 ^ z := hpos
        calc n ≤ 4611686018427387904 * 1 := by omega
          _ ≤ 4611686018427387904 * 2 ^ z := Int.mul_le_mul_of_nonneg_left this (by omega)
      obtain ⟨z2, hz2⟩ : ∃ z2 : Int, (z : Int) - 8 = z2 := ⟨_, rfl⟩
      have HY := hide (one_byte wr x)
      have HR1 := hide ((unhide HR).below ((Below.refl _ _).alloc (Nat.le_refl _) (.cells #[.int .u8 (x.toNat : Int)] 5)))
      have HL : Hid ((l ++ B.take i).length = K + i) := by show _ = _; rw [List.length_append, unhide HK, List.length_take, unhide HBL]; omega
      have HA1 : Hid (Aside (fun k => k = g) w (wr.alloc (.cells #[.int .u8 (x.toNat : Int)] 5))) := (unhide HA).alloc _
      have HZ2 := hide hz2
      have HZ := hide hz
      have z2l : -8 ≤ z2 := by omega
      have z2u : z2 ≤ 56 := by omega
      clear HR HA HSH HST0 hz hpos
      go_wp2_with (at_builtin; refine wpList_append_room14 rfl _ _ rfl g (K + i) (.slice (some ⟨wr.heap.size, 0, none⟩) 1 1) (l ++ B.take i) [x] rfl (unhide HL) (unhide HR1) rfl (unhide HY) (by simp) (by simp; omega) ?_
                   intro w3 hR3 hg3
                   rw [List.append_assoc, ← unhide HST] at hR3
                   have HR3 := hide hR3
                   have HA3 : Hid (Aside (fun k => k = g) w w3) := (unhide HA1).trans (Aside.of_grown hg3 (S := fun k => k = g) fun k hk => (Option.some.inj hk).symm) fun _ _ h => h
                   clear hR3 hg3)
      refine ⟨⟨i + 1, z2, by omega, rfl, rfl, z2l, z2u, ?_, HR3, HA3⟩, ?_⟩
      · show _ = _; have := unhide HZ2; have := unhide HZ; omega
      · have := unhide HZ2; simp [intOf]; omega
    · obtain rfl : i = size := by omega
      obtain rfl : sh = -8 := by have := unhide HSH; omega
      have f1 : decide ((0 : Int) ≤ -8) = false := by simp
      have HE : Hid (RoomAt wr g (l ++ B)) := by
        have h := unhide HR
        rw [List.take_of_length_le (by rw [unhide HBL]; omega)] at h
        exact h
      clear HR
      go_wp2
      go_ret
      exact ⟨rfl, unhide HE, unhide HA⟩
/-- A row grew, perhaps several times: only its own block was written of what was there. -/
structure Gw (w : World) (v : Value) (w' : World) (v' : Value) : Prop where
  a : Aside (fun k => v.ownBlock = some k) w w'
  o : ∀ k, v'.ownBlock = some k → v.ownBlock = some k ∨ w.heap.size ≤ k
theorem Gw.refl (w : World) (v : Value) : Gw w v w v := ⟨Aside.refl _ _, fun _ h => Or.inl h⟩
theorem Gw.below {w w1 w2 : World} {v v1 : Value} (h : Gw w v w1 v1) (hb : Below w1.heap.size w1 w2) : Gw w v w2 v1 := ⟨h.a.trans (T := none_) (Aside.of_below hb) fun _ _ h => h.elim, h.o⟩
theorem Gw.trans {w w1 w2 : World} {v v1 v2 : Value} (h : Gw w v w1 v1) (g : Gw w1 v1 w2 v2) : Gw w v w2 v2 := by
  refine ⟨h.a.trans g.a fun i hi hk => ?_, fun k hk => ?_⟩
  · rcases h.o i hk with h1 | h1
    · exact h1
    · omega
  · rcases g.o k hk with h1 | h1
    · exact h.o k h1
    · exact Or.inr (Nat.le_trans h.a.size h1)
theorem Gw.of {w w' : World} {v v' : Value} (h : Grew w v w' v') : Gw w v w' v' := by
  refine ⟨Aside.of_grown h.1 fun _ h => h, fun k hk => ?_⟩
  rcases h.2 with h1 | h1
  · exact Or.inl (h1 ▸ hk)
  · rw [h1] at hk
    simp only [Option.some.injEq] at hk
    exact Or.inr (by omega)
theorem Gw.cell {w w' : World} {v v' : Value} {A k : Nat} {u : Value} (h : Gw w v w' v') (hA : v.ownBlock ≠ some A) (hc : w.cell? ⟨A, k, none⟩ = some u) : w'.cell? ⟨A, k, none⟩ = some u := cell_aside hc h.a hA
theorem Gw.off {w w' : World} {v v' : Value} {A : Nat} (h : Gw w v w' v') (hA : v.ownBlock ≠ some A) (hl : A < w.heap.size) : v'.ownBlock ≠ some A := fun e => by
  rcases h.o A e with h1 | h1
  · exact hA h1
  · omega
set_option maxRecDepth 100000 in
set_option maxHeartbeats 2000000 in
theorem saddn_own (w0 w : World) (v : Value) (l B : Bs) (size : Nat) (n : Int) (hr : Row w0 w v l) (hB : BigOf n B) (hBl : B.length = size) (hn1 : -4611686018427387904 ≤ n) (hn2 : n ≤ 4611686018427387904) (hs1 : 1 ≤ size) (hs : size ≤ 8) (hf : l.length ≤ 1000000000) :
    Calls Tryz.prog 89 #[v, .int .i64 (size : Int), .int .i64 n] w fun e w' => ∃ v', e = .returned v' ∧ Row w0 w' v' (l ++ B) ∧ Gw w v w' v' := by
  obtain ⟨sp, c, rfl⟩ := hr.own.form
  obtain ⟨LN, hLN⟩ : ∃ x, l.length = x := ⟨_, rfl⟩
  rw [hLN] at hr hf ⊢
  have HLN := hide hLN
  have HR0 := hide hr
  have HB := hide hB
  have HBL := hide hBl
  obtain ⟨s1, hs1'⟩ : ∃ s1, size - 1 = s1 := ⟨_, rfl⟩
  have e0 : (size : Int) - 1 = (s1 : Int) := by omega
  obtain ⟨sh0, hsh0⟩ : ∃ s, 8 * s1 = s := ⟨_, rfl⟩
  have e00 : (8 : Int) * (s1 : Int) = (sh0 : Int) := by omega
  have hsb : sh0 ≤ 56 := by omega
  have HS0 : Hid (sh0 = 8 * (size - 1)) := by show _ = _; omega
  clear hr hB hBl hs1' hsh0 hLN
  go_enter Tryz.func89, Tryz.ntmps89
  go_wp2
  go_loopw [0, 7] (fun bb ii wr => ∃ (i : Nat) (sh : Int) (sq : Option Addr) (cq : Nat), i ≤ size ∧ bb = .slice sq (LN + i) cq ∧ ii = .int .i64 sh ∧ -8 ≤ sh ∧ sh ≤ 56 ∧ Hid (sh = (8 * ((size : Int) - 1 - (i : Int)))) ∧ Hid (Row w0 wr (.slice sq (LN + i) cq) (l ++ B.take i)) ∧ Hid (Gw w (.slice sp LN c) wr (.slice sq (LN + i) cq))) (fun _ ii _ => (intOf ii + 8).toNat)
  case atStart => exact ⟨0, (sh0 : Int), sp, c, by omega, rfl, rfl, by omega, by omega, by show _ = _; have := unhide HS0; omega, by show Row _ _ _ _; rw [List.take_zero, List.append_nil]; exact unhide HR0, Gw.refl _ _⟩
  case round =>
    clear HR0 e00 e0 HS0
    obtain ⟨i, sh, sq, cq, hi, rfl, rfl, hsl, hsu, HSH, HR, HG⟩ := hrel
    by_cases hlt : i < size
    · obtain ⟨z, hz⟩ : ∃ z : Nat, 8 * (size - 1 - i) = z := ⟨_, rfl⟩
      obtain rfl : sh = (z : Int) := by have := unhide HSH; omega
      have f1 : decide ((0 : Int) ≤ (z : Int)) = true := by simp
      obtain ⟨q, hq⟩ : ∃ q : Int, n / 2 ^ z = q := ⟨_, rfl⟩
      obtain ⟨x, hx, HST0⟩ := bigof_step (unhide HB) (i := i) (by have := unhide HBL; omega)
      rw [unhide HBL, hz, hq] at hx
      have HST := hide HST0
      have hpos : (0 : Int) < 2 ^ z := Int.pow_pos (by omega)
      have hqb1 : -4611686018427387904 ≤ q := by
        rw [← hq]
        refine (Int.le_ediv_iff_mul_le hpos).2 ?_
        have : (1 : Int) ≤ 2 ^ z := hpos
        calc (-4611686018427387904 : Int) * 2 ^ z ≤ -4611686018427387904 * 1 := Int.mul_le_mul_of_nonpos_left (by omega) this
          _ ≤ n := by omega
      have hqb2 : q ≤ 4611686018427387904 := by
        rw [← hq]
        refine Int.ediv_le_of_le_mul hpos ?_
        have : (1 : Int) ≤ 2 ^ z := hpos
        calc n ≤ 4611686018427387904 * 1 := by omega
          _ ≤ 4611686018427387904 * 2 ^ z := Int.mul_le_mul_of_nonneg_left this (by omega)
      obtain ⟨z2, hz2⟩ : ∃ z2 : Int, (z : Int) - 8 = z2 := ⟨_, rfl⟩
      have HY := hide (one_byte wr x)
      have HR1 := hide ((unhide HR).lit (.cells #[.int .u8 (x.toNat : Int)] 5))
      have HG1 := hide ((unhide HG).below ((Below.refl _ _).alloc (Nat.le_refl _) (.cells #[.int .u8 (x.toNat : Int)] 5)))
      have HL : Hid ((l ++ B.take i).length + ([x] : Bs).length ≤ 1073741824) := by show _ ≤ _; rw [List.length_append, unhide HLN, List.length_take, unhide HBL]; simp only [List.length_singleton]; omega
      have HL2 : Hid ((l ++ B.take (i + 1)).length = LN + (i + 1)) := by show _ = _; rw [List.length_append, unhide HLN, List.length_take, unhide HBL]; omega
      have HZ2 := hide hz2
      have HZ := hide hz
      have z2l : -8 ≤ z2 := by omega
      have z2u : z2 ≤ 56 := by omega
      clear HR HG HSH HST0 hz hpos
      go_wp2_with (at_builtin; refine wpList_append_grew rfl _ _ rfl (.slice sq (LN + i) cq) (.slice (some ⟨wr.heap.size, 0, none⟩) 1 1) (l ++ B.take i) [x] rfl (unhide HR1) rfl (unhide HY) (unhide HL) ?_
                   intro v3 w3 hR3 hG3
                   rw [List.append_assoc, ← unhide HST] at hR3
                   obtain ⟨s3, c3, e3⟩ := hR3.own.form
                   rw [unhide HL2] at e3
                   subst e3
                   have HR3 := hide hR3
                   have HG3 := hide ((unhide HG1).trans (Gw.of hG3))
                   clear hR3 hG3)
      refine ⟨⟨i + 1, z2, s3, c3, by omega, rfl, rfl, z2l, z2u, ?_, HR3, HG3⟩, ?_⟩
      · show _ = _; have := unhide HZ2; have := unhide HZ; omega
      · have := unhide HZ2; simp [intOf]; omega
    · obtain rfl : i = size := by omega
      obtain rfl : sh = -8 := by have := unhide HSH; omega
      have f1 : decide ((0 : Int) ≤ -8) = false := by simp
      have HE : Hid (Row w0 wr (.slice sq (LN + i) cq) (l ++ B)) := by
        have h := unhide HR
        rw [List.take_of_length_le (by rw [unhide HBL]; omega)] at h
        exact h
      clear HR
      go_wp2
      go_ret
      exact ⟨_, rfl, unhide HE, unhide HG⟩
end Go.Proofs.YtbjgknoipbekoaaGreat
namespace Go.Proofs.YtbjgknoipbekoaaGreat
open Go.RowKit
set_option maxRecDepth 100000 in
set_option maxHeartbeats 1000000 in
theorem snum_s (w : World) (x : Value) (b : Bs) (hx : BytesAt w x b) (hl : b.length ≤ 4) : Calls Tryz.prog 80 #[x] w fun e w' => e = .returned (.int .i64 (numB b : Int)) ∧ w' = w := by
  obtain ⟨sp, c, rfl, _, _, hc⟩ := bytes_open hx
  obtain ⟨N, hN⟩ : ∃ N, b.length = N := ⟨_, rfl⟩
  rw [hN] at hc ⊢
  have H1 := hide hc
  have HN := hide hN
  have hN6 : N ≤ 4 := by omega
  have HS := hide (fun i => num_small4 b i hl)
  obtain ⟨ANS, hA⟩ : ∃ y, numB b = y := ⟨_, rfl⟩
  rw [hA]
  have HA := hide hA
  clear hc hx hN hl hA
  go_enter Tryz.func80, Tryz.ntmps80
  go_wp2
  go_loopw [3, 5, 8] (fun nn _ ii wr => ∃ i m : Nat, i ≤ N ∧ m < 4294967296 ∧ nn = .int .i64 (m : Int) ∧ ii = .int .i64 (i : Int) ∧ wr.heap = w.heap ∧ Hid (m = numB (b.take i)) ∧ Hid (wr = w)) (fun _ _ ii _ => N - (intOf ii).toNat)
  case atStart => exact ⟨0, 0, by omega, by omega, rfl, rfl, rfl, rfl, rfl⟩
  case round =>
    obtain ⟨i, m, hi, hm, rfl, rfl, hh, Hm, Hb⟩ := hrel
    by_cases hlt : i < N
    · have hnb : b ≠ [] := by intro e; have := unhide HN; rw [e] at this; simp at this; omega
      obtain ⟨bb, oo, rfl, _, hcell⟩ := unhide H1 hnb
      have c1 : wr.cell? ⟨bb, oo + i, none⟩ = some (.int .u8 ((b.getD i 0).toNat : Int)) := by rw [← hcell i hlt]; unfold World.cell?; rw [hh]
      have hnx := num_take (b := b) (i := i) (by have := unhide HN; omega)
      have hsm := unhide HS (i + 1)
      rw [hnx, ← unhide Hm] at hsm
      have hlt256 := (b.getD i 0).toNat_lt
      obtain ⟨p, hp⟩ : ∃ p, (b.getD i 0).toNat = p := ⟨_, rfl⟩
      rw [hp] at c1 hnx hsm hlt256
      obtain ⟨m1, hm1⟩ : ∃ m1, m * 256 = m1 := ⟨_, rfl⟩
      obtain ⟨m2, hm2⟩ : ∃ m2, 256 * m + p = m2 := ⟨_, rfl⟩
      have e1 : (m : Int) * 256 = (m1 : Int) := by omega
      have b1 : m1 < 4294967296 := by omega
      have e2 : bits .or .i64 (m1 : Int) (p : Int) = (m2 : Int) := by
        rw [i64_or_nat m1 p b1 (by omega), ← hm1, or_byte m p hlt256, hm2]
      have b2 : m2 < 4294967296 := by omega
      have Hm2 : Hid (m2 = numB (b.take (i + 1))) := by show _ = _; rw [hnx, ← unhide Hm, hm2]
      have f1 : decide ((i : Int) < (N : Int)) = true := by simp; omega
      have f1n : decide (i < N) = true := by simp; omega
      have j0 : (0 : Int) ≤ (i : Int) := by omega
      have j1 : (i : Int) < (N : Int) := by omega
      clear hnb hcell hnx hsm hp hm1 hm2 Hm
      go_wp2
      refine ⟨⟨i + 1, m2, by omega, b2, ?_, ?_, hh, Hm2, Hb⟩, ?_⟩
      · simp
      · simp
      · simp [intOf]; omega
    · obtain rfl : i = N := by omega
      have f1 : decide ((i : Int) < (i : Int)) = false := by simp
      obtain rfl : m = ANS := by rw [unhide Hm, ← unhide HA, List.take_of_length_le (by have := unhide HN; omega)]
      clear Hm
      go_wp2
      go_ret
      exact ⟨rfl, unhide Hb⟩
set_option maxRecDepth 100000 in
set_option maxHeartbeats 2000000 in
theorem saddp_c (w0 w : World) (v x : Value) (l p : Bs) (size : Nat) (hr : Row w0 w v l) (hx : BytesAt w0 x p) (hs1 : 1 ≤ size) (hs : size ≤ 8) (hp : p.length ≤ 10000000) (hl : l.length ≤ 100000000) :
    Calls Tryz.prog 70 #[v, .int .i64 (size : Int), x] w fun e w' => ∃ v', e = .returned v' ∧ Row w0 w' v' (l ++ (bigB p.length size ++ p)) ∧ Gw w v w' v' := by
  have HX0 := hide hx
  obtain ⟨sx, cx, rfl, _⟩ := bytes_open hx
  obtain ⟨sv, cv, rfl⟩ := hr.own.form
  obtain ⟨P, hP⟩ : ∃ P, p.length = P := ⟨_, rfl⟩
  have Hadd := hide (saddn_own w0 w _ l (bigB p.length size) size (p.length : Int) hr (bigof_nat _ _) (big_len _ _) (by omega) (by omega) hs1 hs (by omega))
  have HL : Hid ((l ++ bigB p.length size).length + p.length ≤ 1073741824) := by show _ ≤ _; rw [List.length_append, big_len]; omega
  obtain ⟨BG, hBG⟩ : ∃ y, bigB p.length size = y := ⟨_, rfl⟩
  rw [hBG] at Hadd HL
  have HE : Hid ((l ++ BG) ++ p = l ++ (bigB p.length size ++ p)) := by show _ = _; rw [hBG, List.append_assoc]
  obtain ⟨RES, hRES⟩ : ∃ y, l ++ (bigB p.length size ++ p) = y := ⟨_, rfl⟩
  rw [hRES] at HE ⊢
  obtain ⟨LB, hLB⟩ : ∃ y, (l ++ BG).length = y := ⟨_, rfl⟩
  have HLB := hide hLB
  rw [hP] at Hadd HX0 ⊢
  clear hx hr hP hp hRES hBG hLB
  go_enter Tryz.func70, Tryz.ntmps70
  go_wp2_with (first
    | (go_at_call 89; refine (unhide Hadd).mono ?_
       rintro e w2 ⟨v2, rfl, hR2, hG2⟩
       obtain ⟨s2, c2, e2⟩ := hR2.own.form
       rw [unhide HLB] at e2
       subst e2
       have HR2 := hide hR2
       have HX2 := hide ((unhide HX0).below hR2.b)
       have HG2 := hide hG2
       clear hR2 hG2)
    | (at_builtin; refine wpList_append_grew rfl _ _ rfl (.slice s2 LB c2) (.slice sx P cx) (l ++ BG) p rfl (unhide HR2) rfl (unhide HX2) (unhide HL) ?_
       intro v3 w3 hR3 hG3
       rw [unhide HE] at hR3
       have HR3 := hide hR3
       have HG3 := hide ((unhide HG2).trans (Gw.of hG3))
       clear hR3 hG3))
  go_ret
  exact ⟨_, rfl, unhide HR3, unhide HG3⟩
/-- The key's and the value's lengths are right. -/
def goodN (k v : Nat) (g : Bool) : Bool := decide (1 ≤ k) && decide (k ≤ 32) && (g || decide (v ≤ 8192))
theorem good_right (c : Ch) : goodN c.key.length c.val.length c.gone = decide (rightC c) := by
  rw [Bool.eq_iff_iff, decide_eq_true_iff]
  unfold goodN rightC
  simp only [Bool.and_eq_true, Bool.or_eq_true, decide_eq_true_eq]
  cases c.gone <;> simp <;> omega
set_option maxRecDepth 100000 in
set_option maxHeartbeats 2000000 in
theorem cgood_c (w : World) (s1 s2 : Option Addr) (k v c1 c2 : Nat) (g : Bool) : Calls Tryz.prog 69 #[.agg #[.slice s1 k c1, .slice s2 v c2, .bool g]] w fun e w' => e = .returned (.bool (goodN k v g)) ∧ Below w.heap.size w w' := by
  have HB : Hid (Below w.heap.size w (w.alloc (.cells #[.slice s1 k c1, .slice s2 v c2, .bool g] 72))) := (Below.refl _ _).alloc (Nat.le_refl _) _
  by_cases h1 : k < 1
  · have d1 : decide ((k : Int) < 1) = true := by simp; omega
    have d1n : decide (k < 1) = true := by simp; omega
    have e : goodN k v g = false := by unfold goodN; rw [decide_eq_false (show ¬ 1 ≤ k by omega)]; rfl
    rw [e]
    go_enter Tryz.func69, Tryz.ntmps69
    go_wp2
    go_ret
    exact ⟨rfl, unhide HB⟩
  · have d1 : decide ((k : Int) < 1) = false := by simp; omega
    have d1n : decide (k < 1) = false := by simp; omega
    by_cases h2 : 32 < k
    · have d2 : decide ((32 : Int) < (k : Int)) = true := by simp; omega
      have d2n : decide (32 < k) = true := by simp; omega
      have e : goodN k v g = false := by unfold goodN; rw [decide_eq_false (show ¬ k ≤ 32 by omega)]; simp
      rw [e]
      go_enter Tryz.func69, Tryz.ntmps69
      go_wp2
      go_ret
      exact ⟨rfl, unhide HB⟩
    · have d2 : decide ((32 : Int) < (k : Int)) = false := by simp; omega
      have d2n : decide (32 < k) = false := by simp; omega
      have e : goodN k v g = (g || decide (v ≤ 8192)) := by unfold goodN; rw [decide_eq_true (show 1 ≤ k by omega), decide_eq_true (show k ≤ 32 by omega)]; rfl
      rw [e]
      cases g
      · by_cases h3 : v ≤ 8192
        · have d3 : decide ((v : Int) ≤ 8192) = true := by simp; omega
          have d3n : decide (v ≤ 8192) = true := by simp; omega
          rw [d3n]
          go_enter Tryz.func69, Tryz.ntmps69
          go_wp2
          go_ret
          exact ⟨rfl, unhide HB⟩
        · have d3 : decide ((v : Int) ≤ 8192) = false := by simp; omega
          have d3n : decide (v ≤ 8192) = false := by simp; omega
          rw [d3n]
          go_enter Tryz.func69, Tryz.ntmps69
          go_wp2
          go_ret
          exact ⟨rfl, unhide HB⟩
      · go_enter Tryz.func69, Tryz.ntmps69
        go_wp2
        go_ret
        exact ⟨rfl, unhide HB⟩
theorem cells_new3 (w : World) (a b c : Value) (t : TypeId) : (w.alloc (.cells #[a, b, c] t)).cell? ⟨w.heap.size, 0, none⟩ = some a ∧ (w.alloc (.cells #[a, b, c] t)).cell? ⟨w.heap.size, 1, none⟩ = some b ∧ (w.alloc (.cells #[a, b, c] t)).cell? ⟨w.heap.size, 2, none⟩ = some c := by
  have h := (MapKept.heap_alloc w (.cells #[a, b, c] t)).1
  refine ⟨?_, ?_, ?_⟩ <;> (unfold World.cell?; rw [h]; rfl)
set_option maxRecDepth 100000 in
set_option maxHeartbeats 4000000 in
theorem sgood_c (K : Set_) (w : World) (x : Value) (l : List Ch) (h : ChsAt K w x l) (hl : l.length ≤ 1000000) : Calls Tryz.prog 45 #[x] w fun e w' => e = .returned (.bool (decide (RightL l))) ∧ Below w.heap.size w w' := by
  obtain ⟨sp, c, rfl, _⟩ := h.form
  obtain ⟨n, hn⟩ : ∃ n, l.length = n := ⟨_, rfl⟩
  rw [hn] at h hl ⊢
  have H := hide h
  have HN := hide hn
  obtain ⟨ANS, hA⟩ : ∃ y, decide (RightL l) = y := ⟨_, rfl⟩
  rw [hA]
  have HA := hide hA
  clear h hn hA
  go_enter Tryz.func45, Tryz.ntmps45
  go_wp2
  go_loopw [7] (fun ii wr => ∃ i : Nat, i ≤ n ∧ ii = .int .i64 (i : Int) ∧ Hid (∀ (j : Nat) (c : Ch), j < i → l[j]? = some c → rightC c) ∧ Hid (Below w.heap.size w wr)) (fun ii _ => n - (intOf ii).toNat)
  case atStart => exact ⟨0, by omega, rfl, fun j op hj => absurd hj (by omega), Below.refl _ _⟩
  case round =>
    obtain ⟨i, hi, rfl, Hs, Hb⟩ := hrel
    by_cases hlt : i < n
    · obtain ⟨ch, g, o, s1, c1, s2, c2, hop, rfl, _, hgl, h3⟩ := ((unhide H).below (unhide Hb)).one (i := i) (by have := unhide HN; omega)
      have f1 : decide ((i : Int) < (n : Int)) = true := by simp; omega
      have f1n : decide (i < n) = true := by simp; omega
      have j0 : (0 : Int) ≤ (i : Int) := by omega
      have j1 : (i : Int) < (n : Int) := by omega
      have k0 := h3.c0
      have k1 := h3.c1
      have k2 := h3.c2
      have HG := hide (good_right ch)
      obtain ⟨KN, hKN⟩ : ∃ y, ch.key.length = y := ⟨_, rfl⟩
      obtain ⟨VN, hVN⟩ : ∃ y, ch.val.length = y := ⟨_, rfl⟩
      obtain ⟨gb, hgb⟩ : ∃ y, ch.gone = y := ⟨_, rfl⟩
      rw [hKN] at k0 HG
      rw [hVN] at k1 HG
      rw [hgb] at k2 HG
      have HOP := hide hop
      have HB1 : Hid (Below w.heap.size w (wr.alloc (.cells #[.slice s1 KN c1, .slice s2 VN c2, .bool gb] 72))) := (unhide Hb).alloc (unhide Hb).size _
      have Hc := hide (fun w' => cgood_c w' s1 s2 KN VN c1 c2 gb)
      obtain ⟨gd, hgd⟩ : ∃ y, goodN KN VN gb = y := ⟨_, rfl⟩
      rw [hgd] at HG Hc
      obtain ⟨w1, hw1⟩ : ∃ y, wr.alloc (.cells #[.slice s1 KN c1, .slice s2 VN c2, .bool gb] 72) = y := ⟨_, rfl⟩
      obtain ⟨m0, m1, m2⟩ := cells_new3 wr (.slice s1 KN c1) (.slice s2 VN c2) (.bool gb) 72
      rw [hw1] at HB1 m0 m1 m2
      clear h3 hop hKN hVN hgb hgd
      cases gd
      · obtain rfl : false = ANS := by
          rw [← unhide HA]
          symm
          rw [decide_eq_false_iff_not]
          intro hr
          have h1 := hr ch (List.mem_of_getElem? (unhide HOP))
          have h2 := unhide HG
          rw [decide_eq_true h1] at h2
          cases h2
        go_wp2_with (go_at_call 69; refine (unhide Hc _).mono ?_
                     rintro e w2 ⟨rfl, hb2⟩
                     have HB2 := hide ((unhide HB1).trans (hb2.mono (unhide HB1).size))
                     clear hb2)
        go_ret
        exact ⟨rfl, unhide HB2⟩
      · go_wp2_with (go_at_call 69; refine (unhide Hc _).mono ?_
                     rintro e w2 ⟨rfl, hb2⟩
                     have HB2 := hide ((unhide HB1).trans (hb2.mono (unhide HB1).size))
                     clear hb2)
        refine ⟨⟨i + 1, by omega, ?_, fun j c hj hc => ?_, HB2⟩, ?_⟩
        · simp
        · by_cases hji : j < i
          · exact unhide Hs j c hji hc
          · obtain rfl : j = i := by omega
            rw [unhide HOP] at hc
            cases hc
            exact of_decide_eq_true (unhide HG).symm
        · simp [intOf]; omega
    · obtain rfl : i = n := by omega
      have f1 : decide ((i : Int) < (i : Int)) = false := by simp
      obtain rfl : true = ANS := by
        rw [← unhide HA]
        symm
        rw [decide_eq_true_iff]
        intro ch hch
        obtain ⟨j, hj⟩ := List.getElem?_of_mem hch
        exact unhide Hs j ch (by have := (List.getElem?_eq_some_iff.1 hj).1; have := unhide HN; omega) hj
      go_wp2
      go_ret
      exact ⟨rfl, unhide Hb⟩
end Go.Proofs.YtbjgknoipbekoaaGreat
