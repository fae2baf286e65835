/-
  Plain words on stores (layer 15): opened again beside the reference; opened on a new plate.
  Changes in memory; what the calls of a store promise: the record Store, over a plate's; a plate and a store on it.
  What an argument's reading gives the walks: a slice of changes.
  What an argument's reading gives the walks: numbers, texts.
  Contracts of library functions, laid at this translation.
  The walk of the landed store's pairs.keys.
  The walks of the landed store's small functions: addNumber, addPart, readNumber.
-/
import Derived.Test.YtbjgknoipbekoaaGreatQ17
import Derived.Test.YtbjgknoipbekoaaGreatQ15
import Derived.Test.YtbjgknoipbekoaaGreatQ2
import Derived.Test.YtbjgknoipbekoaaGreatQ0
import Derived.Deep.Slices
import Derived.SizedLaws
import Derived.SliceStrings
import Derived.Shelf.Sort.Plain
import Derived.Shelf.Strings.Prefix
import Derived.Shelf.Slices.In.SortNone
import Derived.Shelf.Bytes.SlEqualAll
import Derived.Shelf.Bytes.Small
import Derived.Test.YtbjgknoipbekoaaGreatProg
import Derived.Sort.OwnSorted
import Derived.Sort.KeysCollected
import Derived.Test.YtbjgknoipbekoaaGreatQ3
namespace Go.Proofs.YtbjgknoipbekoaaGreat
/-- Opened again: nothing is written, and it has the same. -/
theorem Beside.again {T : Nat} {s : PS} {S : SS} {r : RS} (H : Beside T s S r) (hT : T + 1 < 4294967296) : ∃ S', openS s S.half = (0, some S', s) ∧ S'.half = S.half ∧ Beside (T + 1) s S' r := by
  have hL := H.live
  have hcon : contentS s = s.safe := by unfold contentS; rw [hL.on.rest.loose]; rfl
  have hm : topM s = S.gen := by unfold topM; rw [hcon]; exact hL.on.marks
  have hg := hL.on.g0
  obtain ⟨o1, o2⟩ := hL.on.open_ hT
  refine ⟨⟨S.half, S.gen, openL s (fromG S.half S.gen) S.half S.gen, S.pairs, false⟩, ?_, rfl, ⟨o1, H.left, rfl, H.half, H.gen, ?_, H.pairs⟩⟩
  · unfold openS
    rw [hm, if_neg (by omega), o2, if_neg hL.on.ne, hL.on.lead]
  · rw [H.used]
    show usedR S.log.rs = usedR (openL s (fromG S.half S.gen) S.half S.gen).rs
    rw [o2]
theorem bare_left {h g T : Nat} {s : PS} {qs : List (Bs × Bs)} (H : Bare h g T s) (hg : g + 1 < 2147483648) (hT : T + 1 < 4294967296) (hq : SortedP qs) (hqr : RightP qs) (hb : (wrL (allP qs)).length ≤ 65536) (hr : needs (wrL (allP qs)).length ≤ h) (hlf : s.left < 0) :
    (beginR s h (g + 1) (wrL (allP qs))).1.left < 0 ∧ usedR (beginR s h (g + 1) (wrL (allP qs))).2.2.rs = needs (wrL (allP qs)).length := by
  obtain ⟨_, O, _, _, _, e4, e5⟩ := bare_ok H hg hT hq hqr hb hr (Or.inl hlf)
  refine ⟨e5 hlf, ?_⟩
  rw [e4]
  exact (used_snoc15 _ _ []).trans (Nat.zero_add _)
/-- Opened on a plate that has nothing. -/
theorem Bare.opened {h T : Nat} {s : PS} (H : Bare h 0 T s) (hT : T + 1 < 4294967296) (hlf : s.left < 0) : ∃ S s', openS s h = (0, some S, s') ∧ S.half = h ∧ Beside (T + 1) s' S ⟨h, 1, 1, []⟩ := by
  have hcon : contentS s = s.safe := by unfold contentS; rw [H.rest.loose]; rfl
  have hm : topM s = 0 := by unfold topM; rw [hcon]; exact H.marks
  have hh := H.h1
  have hn1 : needs (wrL (allP [])).length = 1 := rfl
  have hn : (wrL (allP [])).length = 0 := rfl
  have hq : SortedP [] := List.Pairwise.nil
  have hqr : RightP [] := fun x hx => by cases hx
  obtain ⟨a1, a2⟩ := H.begin_ (qs := []) (by omega) hT hq hqr (by omega) (by omega) (Or.inl hlf)
  obtain ⟨b1, b2⟩ := bare_left (qs := []) H (by omega) hT hq hqr (by omega) (by omega) hlf
  refine ⟨⟨h, 1, (beginR s h 1 (wrL (allP []))).2.2, [], false⟩, (beginR s h 1 (wrL (allP []))).1, ?_, rfl, ⟨a2, b1, rfl, rfl, rfl, b2.symm, rfl⟩⟩
  unfold openS
  rw [if_pos hm]
  have a1' : (beginR s h 1 (wrL (allP []))).2.1 = 0 := a1
  rw [a1', if_pos rfl]
/-- A new plate, opened. -/
theorem new_opened {n : Nat} (h4 : 4 ≤ n) (hn : n ≤ 16384) : ∃ S s', openS (newS n) ((n - 2) / 2) = (0, some S, s') ∧ S.half = (n - 2) / 2 ∧ Beside 1 s' S ⟨(n - 2) / 2, 1, 1, []⟩ := by
  have hb : Bare ((n - 2) / 2) 0 0 (newS n) := new_bare (n := n) (by omega) (by omega) (rest_new n 0 0 1 hn (by omega) (by omega) (by omega)).ok rfl rfl rfl
  exact hb.opened (by omega) (show (-1 : Int) < 0 by decide)
end Go.Proofs.YtbjgknoipbekoaaGreat
namespace Go.Proofs.YtbjgknoipbekoaaGreat
open Go.RowKit
/-- A change's three cells, all of it in blocks of K. -/
structure Ch3 (K : Set_) (w : World) (g o : Nat) (c : Ch) (kv vv : Value) : Prop where
  c0 : w.cell? ⟨g, o, none⟩ = some kv
  c1 : w.cell? ⟨g, o + 1, none⟩ = some vv
  c2 : w.cell? ⟨g, o + 2, none⟩ = some (.bool c.gone)
  key : ElS K w kv c.key
  val : ElS K w vv c.val
/-- A slice of changes, all of it in blocks of K. -/
structure ChsAt (K : Set_) (w : World) (x : Value) (l : List Ch) : Prop where
  form : ∃ sp c, x = .slice sp l.length c ∧ l.length ≤ c ∧ (sp = none → c = 0)
  at_ : ∀ (i : Nat) (c : Ch), l[i]? = some c → ∃ g o m cp, x = .slice (some ⟨g, o, none⟩) m cp ∧ K g ∧ g < w.heap.size ∧ ∃ kv vv, Ch3 K w g (o + i * 3) c kv vv
theorem Ch3.aside {K S : Set_} {a b : World} {g o : Nat} {c : Ch} {kv vv : Value} (h : Ch3 K a g o c kv vv) (hb : Aside S a b) (hK : ∀ k, S k → ¬ K k) (hg : K g) : Ch3 K b g o c kv vv :=
  ⟨cell_aside h.c0 hb fun hS => hK g hS hg, cell_aside h.c1 hb fun hS => hK g hS hg, cell_aside h.c2 hb fun hS => hK g hS hg, h.key.aside hb hK, h.val.aside hb hK⟩
theorem ChsAt.aside {K S : Set_} {a b : World} {x : Value} {l : List Ch} (h : ChsAt K a x l) (hb : Aside S a b) (hK : ∀ k, S k → ¬ K k) : ChsAt K b x l := by
  refine ⟨h.form, fun i c hi => ?_⟩
  obtain ⟨g, o, m, cp, e, hg, hl, kv, vv, h3⟩ := h.at_ i c hi
  exact ⟨g, o, m, cp, e, hg, Nat.lt_of_lt_of_le hl hb.size, kv, vv, h3.aside hb hK hg⟩
theorem ChsAt.below {K : Set_} {a b : World} {x : Value} {l : List Ch} (h : ChsAt K a x l) (hb : Below a.heap.size a b) : ChsAt K b x l := h.aside (S := none_) (Aside.of_below hb) fun _ h => h.elim
theorem ElS.mono' {V V' : Set_} {a : World} {v : Value} {l : Bs} (h : ElS V a v l) (hV : ∀ k, k < a.heap.size → V k → V' k) : ElS V' a v l := ⟨h.at_, fun hne k hk => hV k (ValsAt.old h.at_ (by simpa using hne) k hk) (h.blk hne k hk)⟩
theorem ChsAt.mono {K K' : Set_} {a : World} {x : Value} {l : List Ch} (h : ChsAt K a x l) (hK : ∀ k, k < a.heap.size → K k → K' k) : ChsAt K' a x l := by
  refine ⟨h.form, fun i c hi => ?_⟩
  obtain ⟨g, o, m, cp, e, hg, hl, kv, vv, h3⟩ := h.at_ i c hi
  exact ⟨g, o, m, cp, e, hK g hl hg, hl, kv, vv, ⟨h3.c0, h3.c1, h3.c2, h3.key.mono' hK, h3.val.mono' hK⟩⟩
/-- One change of the slice. -/
theorem ChsAt.one {K : Set_} {w : World} {sp : Option Addr} {n cp i : Nat} {l : List Ch} (h : ChsAt K w (.slice sp n cp) l) (hi : i < l.length) : ∃ c g o s1 c1 s2 c2, l[i]? = some c ∧ sp = some ⟨g, o, none⟩ ∧ K g ∧ g < w.heap.size ∧ Ch3 K w g (o + i * 3) c (.slice s1 c.key.length c1) (.slice s2 c.val.length c2) := by
  obtain ⟨g, o, m, cp', e, hg, hl, kv, vv, h3⟩ := h.at_ i l[i] (List.getElem?_eq_getElem hi)
  simp only [Value.slice.injEq] at e
  obtain ⟨rfl, _, _⟩ := e
  obtain ⟨s1, c1, e1, _⟩ := bytes_open h3.key.at_
  obtain ⟨s2, c2, e2, _⟩ := bytes_open h3.val.at_
  subst e1
  subst e2
  exact ⟨l[i], g, o, s1, c1, s2, c2, List.getElem?_eq_getElem hi, rfl, hg, hl, h3⟩
/-- The keys that begin so. -/
def keysP (ps : List (Bs × Bs)) (pre : Bs) : List Bs := (ps.map (·.1)).filter fun k => pre.isPrefixOf k
/-- A store in memory, over the plate p: S the blocks of its own that its calls may write, R those that they only read. -/
structure Store (PAt : Set_ → Set_ → World → Value → PS → Prop) (SAt : Set_ → Set_ → World → Value → Value → SS → Prop) : Prop where
  ptr : ∀ {S R w t p G}, SAt S R w t p G → ∃ a, t = .pointer (some a)
  old : ∀ {S R w t p G}, SAt S R w t p G → ∀ k, S k ∨ R k → k < w.heap.size
  kept : ∀ {S R T w w' t p G}, SAt S R w t p G → Aside T w w' → (∀ k, T k → ¬ S k ∧ ¬ R k) → SAt S R w' t p G
  get : ∀ {S R w t p G} (x : Value) (k : Bs), SAt S R w t p G → BytesAt w x k → k.length ≤ 1000000 → Calls Tryz.prog 15 #[t, x] w fun e w' => ∃ v, e = .returned (.tuple #[v, .bool (getP G.pairs k).isSome]) ∧ OwnB w' w.heap.size v ((getP G.pairs k).getD []) ∧ Below w.heap.size w w'
  keys : ∀ {S R w t p G} (x : Value) (pre : Bs), SAt S R w t p G → BytesAt w x pre → pre.length ≤ 1000000 → Calls Tryz.prog 17 #[t, x] w fun e w' => ∃ v vs, e = .returned v ∧ ListsAt w.heap.size w' v vs (keysP G.pairs pre) ∧ Below w.heap.size w w'
  gen : ∀ {S R w t p G}, SAt S R w t p G → Calls Tryz.prog 20 #[t] w fun e w' => e = .returned (.int .i64 (G.gen : Int)) ∧ Below w.heap.size w w'
  open_ : ∀ {S R w p s} (h T : Nat) (ps : List (Bs × Bs)), PAt S R w p s → AtRest h T s ps → T + 1 < 4294967296 → h = (s.safe.length - 2) / 2 →
    Calls Tryz.prog 10 #[p] w fun e w' => ∃ v, e = .returned (.tuple #[v, .int .i64 (openS s h).1]) ∧ ∃ S' R' S2 R2, PAt S' R' w' p (openS s h).2.2 ∧ (∀ k, S' k → S k ∨ w.heap.size ≤ k) ∧ (∀ k, R' k → R k ∨ w.heap.size ≤ k) ∧ Aside S w w' ∧ (∀ G, (openS s h).2.1 = some G → SAt S2 R2 w' v p G) ∧ ((openS s h).2.1 = none → v = .pointer none) ∧ (∀ k, S2 k → S k ∨ w.heap.size ≤ k) ∧ (∀ k, R2 k → w.heap.size ≤ k) ∧ (∀ k, S2 k → ¬ S' k ∧ ¬ R' k) ∧ (∀ k, S' k → ¬ R2 k)
  commit : ∀ {S R S2 R2 w t p s G} (K : Set_) (x : Value) (l : List Ch) (T : Nat), PAt S R w p s → SAt S2 R2 w t p G → (∀ k, S2 k → ¬ S k ∧ ¬ R k) → (∀ k, S k → ¬ R2 k) → ChsAt K w x l → (∀ k, K k → ¬ S k ∧ ¬ S2 k) → l.length ≤ 1000 → G.half = (s.safe.length - 2) / 2 → (G.closed = false → Live G.half G.gen T s G.log G.pairs ∧ T + 1 < 4294967296) →
    Calls Tryz.prog 14 #[t, x] w fun e w' => e = .returned (.int .i64 (commitS G s l).1) ∧ ∃ S' R' S2' R2', PAt S' R' w' p (commitS G s l).2.2 ∧ SAt S2' R2' w' t p (commitS G s l).2.1 ∧ (∀ k, S' k ∨ S2' k → (S k ∨ S2 k) ∨ w.heap.size ≤ k) ∧ (∀ k, R' k → R k ∨ w.heap.size ≤ k) ∧ (∀ k, R2' k → R2 k ∨ w.heap.size ≤ k) ∧ (∀ k, S2' k → ¬ S' k ∧ ¬ R' k) ∧ (∀ k, S' k → ¬ R2' k) ∧ Aside (fun k => S k ∨ S2 k) w w'
end Go.Proofs.YtbjgknoipbekoaaGreat
namespace Go.Proofs.YtbjgknoipbekoaaGreat
open Go.ChangeShapes Go.WideShapes Go.ChangeAt Go.RowKit
end Go.Proofs.YtbjgknoipbekoaaGreat
namespace Go.Proofs.YtbjgknoipbekoaaGreat
open Go.ChangeShapes Go.WideShapes Go.ChangeAt Go.RowKit
/-- WHAT A READING OF A SLICE OF NUMBERS GIVES. -/
theorem ints_arg {H : Type} {enc : TypeId × Value → H} {W : World} {a : Option Addr} {len cap : Nat} {fuel : Nat} {x : DataW H × List MemPlace}
    (hf : DataW.trod enc Tryz.prog W 0 (fun _ => true) true fuel 67 (Value.slice a len cap).cells.toList = some x) : ∃ l : List Int, ValsAt W (.slice a len cap) (l.map fun x => .int .i64 x) := by
  rcases open_ints Tryz.underlying67 Tryz.underlying3 (by kernel_rfl) hf with ⟨hcs, _⟩ | ⟨y, l, c, zs, hcs, _, hl, hm, hz, _, hcell, _⟩
  · simp [Value.cells] at hcs
    obtain ⟨rfl, rfl, rfl⟩ := hcs
    exact ⟨[], vals_nil _⟩
  · simp [Value.cells] at hcs
    obtain ⟨rfl, rfl, rfl⟩ := hcs
    have hz' : zs.length = cap := by simpa using hz
    have hlv : ((zs.take len).map fun x => Value.int .i64 x).length = len := by simp; omega
    refine ⟨zs.take len, some y, cap, by rw [hlv], by rw [hlv]; exact hl, fun h => (by cases h), fun hne => ?_⟩
    have hpos : 0 < len := by
      rcases Nat.eq_zero_or_pos len with h | h
      · subst h; simp at hne
      · exact h
    have c0 := hcell 0 (by omega)
    obtain ⟨b, o, s⟩ := y
    have hs : s = none := by
      cases s with
      | none => rfl
      | some k => simp [Addr.add, World.cell?] at c0; split at c0 <;> simp at c0
    subst hs
    refine ⟨b, o, rfl, fun j v hv => ?_⟩
    have hj : j < len := by
      have := (List.getElem?_eq_some_iff.1 hv).1
      rw [hlv] at this; exact this
    have hc := hcell j (by omega)
    rw [Addr.add_mid] at hc
    rw [hc]
    rw [List.getElem?_map, List.getElem?_take, if_pos hj] at hv
    have hjz : j < zs.length := by omega
    rw [List.getElem?_eq_getElem hjz] at hv
    simp only [Option.map_some, Option.some.injEq] at hv
    rw [← hv]
    rw [List.getD_eq_getElem?_getD, List.getElem?_eq_getElem hjz]
    rfl
/-- WHAT A READING OF A SLICE OF TEXTS GIVES. -/
theorem strs_arg {H : Type} {enc : TypeId × Value → H} {W : World} {a : Option Addr} {len cap : Nat} {fuel : Nat} {x : DataW H × List MemPlace}
    (hf : DataW.trod enc Tryz.prog W 0 (fun _ => true) true fuel 66 (Value.slice a len cap).cells.toList = some x) : ∃ l : List ByteArray, ValsAt W (.slice a len cap) (l.map fun x => .string x) := by
  rcases open_strings Tryz.underlying66 Tryz.underlying9 (by kernel_rfl) hf with ⟨hcs, _⟩ | ⟨y, l, c, zs, hcs, _, hl, hm, hz, _, hcell, _⟩
  · simp [Value.cells] at hcs
    obtain ⟨rfl, rfl, rfl⟩ := hcs
    exact ⟨[], vals_nil _⟩
  · simp [Value.cells] at hcs
    obtain ⟨rfl, rfl, rfl⟩ := hcs
    have hz' : zs.length = cap := by simpa using hz
    have hlv : ((zs.take len).map fun x => Value.string x).length = len := by simp; omega
    refine ⟨zs.take len, some y, cap, by rw [hlv], by rw [hlv]; exact hl, fun h => (by cases h), fun hne => ?_⟩
    have hpos : 0 < len := by
      rcases Nat.eq_zero_or_pos len with h | h
      · subst h; simp at hne
      · exact h
    have c0 := hcell 0 (by omega)
    obtain ⟨b, o, s⟩ := y
    have hs : s = none := by
      cases s with
      | none => rfl
      | some k => simp [Addr.add, World.cell?] at c0; split at c0 <;> simp at c0
    subst hs
    refine ⟨b, o, rfl, fun j v hv => ?_⟩
    have hj : j < len := by
      have := (List.getElem?_eq_some_iff.1 hv).1
      rw [hlv] at this; exact this
    have hc := hcell j (by omega)
    rw [Addr.add_mid] at hc
    rw [hc]
    rw [List.getElem?_map, List.getElem?_take_of_lt hj] at hv
    rw [← hv, List.getD_eq_getElem?_getD]
    rw [List.getElem?_eq_getElem (by omega)]
    rfl
end Go.Proofs.YtbjgknoipbekoaaGreat
namespace Go.Proofs
open Go.Shelf
def Tryz.lays190_ren : Go.Shelf.Ren := ⟨fun | 190 => 76 | 125 => 97 | 258 => 96 | 128 => 116 | 129 => 117 | 302 => 107 | 303 => 108 | 304 => 109 | 305 => 110 | 306 => 111 | 307 => 112 | 308 => 113 | 309 => 114 | 310 => 115 | 333 => 122 | 329 => 123 | 330 => 124 | 334 => 125 | 335 => 126 | 336 => 127 | 344 => 130 | n => n, fun | 31 => 66 | 9 => 9 | 3 => 3 | 46 => 117 | 0 => 0 | 51 => 168 | 53 => 170 | 4 => 4 | 183 => 162 | 182 => 161 | 131 => 79 | 5 => 5 | 218 => 174 | 222 => 178 | 228 => 181 | 229 => 182 | n => n, fun | n => n⟩
theorem Tryz.lays190 : Go.Proofs.Lays.n190 Tryz.prog Tryz.lays190_ren := {
  mixed := by kernel_rfl
  f125 := Tryz.func97.trans (congrArg some (by kernel_rfl))
  f128 := Tryz.func116.trans (congrArg some (by kernel_rfl))
  f129 := Tryz.func117.trans (congrArg some (by kernel_rfl))
  f190 := Tryz.func76.trans (congrArg some (by kernel_rfl))
  f258 := Tryz.func96.trans (congrArg some (by kernel_rfl))
  f302 := Tryz.func107.trans (congrArg some (by kernel_rfl))
  f303 := Tryz.func108.trans (congrArg some (by kernel_rfl))
  f304 := Tryz.func109.trans (congrArg some (by kernel_rfl))
  f305 := Tryz.func110.trans (congrArg some (by kernel_rfl))
  f306 := Tryz.func111.trans (congrArg some (by kernel_rfl))
  f307 := Tryz.func112.trans (congrArg some (by kernel_rfl))
  f308 := Tryz.func113.trans (congrArg some (by kernel_rfl))
  f309 := Tryz.func114.trans (congrArg some (by kernel_rfl))
  f310 := Tryz.func115.trans (congrArg some (by kernel_rfl))
  f329 := Tryz.func123.trans (congrArg some (by kernel_rfl))
  f330 := Tryz.func124.trans (congrArg some (by kernel_rfl))
  f333 := Tryz.func122.trans (congrArg some (by kernel_rfl))
  f334 := Tryz.func125.trans (congrArg some (by kernel_rfl))
  f335 := Tryz.func126.trans (congrArg some (by kernel_rfl))
  f336 := Tryz.func127.trans (congrArg some (by kernel_rfl))
  f344 := Tryz.func130.trans (congrArg some (by kernel_rfl))
  t0 := Tryz.underlying0
  a0 := Tryz.isAgg0
  z0 := Tryz.sizeOf0
  v0 := Tryz.zeroValue0
  t3 := Tryz.underlying3
  a3 := Tryz.isAgg3
  z3 := Tryz.sizeOf3
  v3 := Tryz.zeroValue3
  t4 := Tryz.underlying4
  a4 := Tryz.isAgg4
  z4 := Tryz.sizeOf4
  v4 := Tryz.zeroValue4
  t5 := Tryz.underlying5
  a5 := Tryz.isAgg5
  z5 := Tryz.sizeOf5
  v5 := Tryz.zeroValue5
  t9 := Tryz.underlying9
  a9 := Tryz.isAgg9
  z9 := Tryz.sizeOf9
  v9 := Tryz.zeroValue9
  t31 := Tryz.underlying66
  a31 := Tryz.isAgg66
  z31 := Tryz.sizeOf66
  v31 := Tryz.zeroValue66
  t46 := Tryz.underlying117
  a46 := Tryz.isAgg117
  z46 := Tryz.sizeOf117
  v46 := Tryz.zeroValue117
  t51 := Tryz.underlying168
  a51 := Tryz.isAgg168
  z51 := Tryz.sizeOf168
  v51 := Tryz.zeroValue168
  t53 := Tryz.underlying170
  a53 := Tryz.isAgg170
  z53 := Tryz.sizeOf170
  v53 := Tryz.zeroValue170
  t131 := Tryz.underlying79
  a131 := Tryz.isAgg79
  z131 := Tryz.sizeOf79
  v131 := Tryz.zeroValue79
  t182 := Tryz.underlying161
  a182 := Tryz.isAgg161
  z182 := Tryz.sizeOf161
  v182 := Tryz.zeroValue161
  t183 := Tryz.underlying162
  a183 := Tryz.isAgg162
  z183 := Tryz.sizeOf162
  v183 := Tryz.zeroValue162
  t218 := Tryz.underlying174
  a218 := Tryz.isAgg174
  z218 := Tryz.sizeOf174
  v218 := Tryz.zeroValue174
  t222 := Tryz.underlying178
  a222 := Tryz.isAgg178
  z222 := Tryz.sizeOf178
  v222 := Tryz.zeroValue178
  t228 := Tryz.underlying181
  a228 := Tryz.isAgg181
  z228 := Tryz.sizeOf181
  v228 := Tryz.zeroValue181
  t229 := Tryz.underlying182
  a229 := Tryz.isAgg182
  z229 := Tryz.sizeOf182
  v229 := Tryz.zeroValue182 }
open Go.Sort Go.RowKit in
theorem Tryz.slices_Sort_string (blk off cap : Nat) (ss : List (List UInt8)) (w : World) (hH : Holds encStr w blk off ss.toArray) (hblk : blk < w.heap.size) (hsz : ss.length < 4611686018427387904) :
    Calls Tryz.prog 76 #[.slice (some ⟨blk, off, none⟩) ss.length cap] w fun e w' =>
      e = .returned (.tuple #[]) ∧ ∃ n os, w' = grow (putRow encStr (Sort.ahead w n) blk off (ss.mergeSort fun x y => decide (x ≤ y)).toArray) os := Any.slices_Sort_string Tryz.lays190 blk off cap ss w hH hblk hsz
def Tryz.lays99_ren : Go.Shelf.Ren := ⟨fun | 99 => 75 | 206 => 95 | n => n, fun | 9 => 9 | 4 => 4 | 3 => 3 | n => n, fun | n => n⟩
theorem Tryz.lays99 : Go.Proofs.Lays.n99 Tryz.prog Tryz.lays99_ren := {
  mixed := by kernel_rfl
  f99 := Tryz.func75.trans (congrArg some (by kernel_rfl))
  f206 := Tryz.func95.trans (congrArg some (by kernel_rfl))
  t3 := Tryz.underlying3
  a3 := Tryz.isAgg3
  z3 := Tryz.sizeOf3
  v3 := Tryz.zeroValue3
  t4 := Tryz.underlying4
  a4 := Tryz.isAgg4
  z4 := Tryz.sizeOf4
  v4 := Tryz.zeroValue4
  t9 := Tryz.underlying9
  a9 := Tryz.isAgg9
  z9 := Tryz.sizeOf9
  v9 := Tryz.zeroValue9 }
open Go.RowKit Go.Lib in
theorem Tryz.strings_HasPrefix (s p : ByteArray) (w : World) :
    Calls Tryz.prog 75 #[.string s, .string p] w fun e w' => e = .returned (.bool (Lib.hasPrefix s.data.toList p.data.toList)) ∧ w' = w := Any.strings_HasPrefix Tryz.lays99 s p w
open Go.RowKit Go.Sort in
theorem Tryz.slices_Sort_string_none (p : Option Addr) (cap : Nat) (w : World) :
    Calls Tryz.prog 76 #[.slice p 0 cap] w fun e w' => e = .returned (.tuple #[]) ∧ w' = w := Any.slices_Sort_string_none Tryz.lays190 p cap w
def Tryz.laysnb115_ren : Go.Shelf.Ren := ⟨fun | 115 => 82 | n => n, fun | 37 => 23 | 4 => 4 | 9 => 9 | 5 => 5 | n => n, fun | n => n⟩
theorem Tryz.laysnb115 : Go.Proofs.Lays.nb115 Tryz.prog Tryz.laysnb115_ren := {
  mixed := by kernel_rfl
  f115 := Tryz.func82.trans (congrArg some (by kernel_rfl))
  t4 := Tryz.underlying4
  a4 := Tryz.isAgg4
  z4 := Tryz.sizeOf4
  v4 := Tryz.zeroValue4
  t9 := Tryz.underlying9
  a9 := Tryz.isAgg9
  z9 := Tryz.sizeOf9
  v9 := Tryz.zeroValue9
  t37 := Tryz.underlying23
  a37 := Tryz.isAgg23
  z37 := Tryz.sizeOf23
  v37 := Tryz.zeroValue23
  t5 := Tryz.underlying5
  a5 := Tryz.isAgg5
  z5 := Tryz.sizeOf5
  v5 := Tryz.zeroValue5 }
theorem Tryz.bytes_Equal_all (p1 p2 : Option Addr) (n c m d : Nat) (xs ys : List Int) (w : World) (hx : xs.length = n) (hy : ys.length = m) (h1 : Lib.BytesIn w p1 n xs) (h2 : Lib.BytesIn w p2 m ys) :
    Calls Tryz.prog 82 #[.slice p1 n c, .slice p2 m d] w fun e w' => e = .returned (.bool (Lib.bytesOf xs == Lib.bytesOf ys)) ∧ w' = w := Any.bytes_Equal_all Tryz.laysnb115 p1 p2 n c m d xs ys w hx hy h1 h2
end Go.Proofs
namespace Go.Proofs.YtbjgknoipbekoaaGreat
open Go.RowKit Go.MapKept
theorem less_lt : ∀ {x y : Bs}, lessB x y = true → x < y
  | [], [], h => by simp [lessB] at h
  | [], b :: y, _ => List.nil_lt_cons b y
  | a :: x, [], h => by simp [lessB] at h
  | a :: x, b :: y, h => by
    unfold lessB at h
    rw [List.cons_lt_cons_iff]
    split at h
    · rename_i e
      exact Or.inr ⟨e, less_lt h⟩
    · exact Or.inl (UInt8.lt_iff_toNat_lt.2 (by simpa using h))
theorem less_le {x y : Bs} (h : lessB x y = true) : leB x y = true := by
  simp only [leB, decide_eq_true_eq]
  exact List.le_of_lt (less_lt h)
theorem keys_sorted {ps : List (Bs × Bs)} (h : SortedP ps) (pre : Bs) : (keysP ps pre).Pairwise fun x y => lessB x y = true := by
  have h' : (ps.map (·.1)).Pairwise (fun x y => lessB x y = true) := List.pairwise_map.2 (show ps.Pairwise (fun a b => lessB a.1 b.1 = true) from h)
  unfold keysP
  exact h'.filter _
theorem keys_merge {ps : List (Bs × Bs)} (h : SortedP ps) (pre : Bs) {ss : List Bs} (hp : ss.Perm (keysP ps pre)) : ss.mergeSort (fun x y => decide (x ≤ y)) = keysP ps pre := by
  have h1 := mergeSort_of_perm hp
  have h2 : (keysP ps pre).mergeSort leB = keysP ps pre := List.mergeSort_of_pairwise ((keys_sorted h pre).imp fun h => less_le h)
  exact h1.trans h2
theorem keys_nodup {ps : List (Bs × Bs)} (h : SortedP ps) (pre : Bs) : (keysP ps pre).Nodup := (keys_sorted h pre).imp fun h => less_ne h
theorem keys_len (ps : List (Bs × Bs)) (pre : Bs) : (keysP ps pre).length ≤ ps.length := by
  unfold keysP
  exact Nat.le_trans (List.length_filter_le _ _) (by rw [List.length_map]; exact Nat.le_refl _)
theorem get_mem : ∀ {ps : List (Bs × Bs)} {k : Bs} {b : Bs}, getP ps k = some b → (k, b) ∈ ps
  | [], _, _, h => by simp [getP] at h
  | x :: ps, k, b, h => by
    unfold getP at h
    split at h
    · rename_i e
      simp only [Option.some.injEq] at h
      obtain ⟨x1, x2⟩ := x
      simp only at e h
      rw [← e, ← h]
      exact List.mem_cons_self
    · exact List.mem_cons_of_mem _ (get_mem h)
theorem mem_get {ps : List (Bs × Bs)} {k : Bs} (h : k ∈ ps.map (·.1)) : getP ps k ≠ none := by
  induction ps with
  | nil => simp at h
  | cons x ps ih =>
    unfold getP
    split
    · simp
    · rename_i hne
      rw [List.map_cons, List.mem_cons] at h
      rcases h with h | h
      · exact absurd h.symm hne
      · exact ih h
/-- What was collected so far. -/
structure Got (es : Array MapEntry) (seen : Array Nat) (pre : Bs) (ss : List Bs) : Prop where
  nodup : ss.Nodup
  mem : ∀ x, x ∈ ss ↔ (pre.isPrefixOf x = true ∧ ∃ e ∈ es.toList, e.key = ks x ∧ seen.contains e.born = true)
theorem Got.start (es : Array MapEntry) (pre : Bs) : Got es #[] pre [] := ⟨List.nodup_nil, fun x => by simp⟩
theorem same_key {es : Array MapEntry} {clock : Nat} (h : Stamped es clock) {e e' : MapEntry} (he : e ∈ es.toList) (he' : e' ∈ es.toList) (hk : e.key = e'.key) : e = e' := entry_eq_of_key ((stamped_iff es clock).1 h).2.2 he he' hk
theorem Got.not {es : Array MapEntry} {clock : Nat} {seen : Array Nat} {pre : Bs} {ss : List Bs} (h : Got es seen pre ss) (hst : Stamped es clock) {e : MapEntry} (he : e ∈ es.toList) {x : Bs} (hx : e.key = ks x) (hp : pre.isPrefixOf x = false) : Got es (seen.push e.born) pre ss := by
  refine ⟨h.nodup, fun y => ?_⟩
  rw [h.mem y]
  constructor
  · rintro ⟨h1, e', h2, h3, h4⟩
    exact ⟨h1, e', h2, h3, by rw [contains_push, h4]; rfl⟩
  · rintro ⟨h1, e', h2, h3, h4⟩
    refine ⟨h1, e', h2, h3, ?_⟩
    rw [contains_push] at h4
    simp only [Bool.or_eq_true, beq_iff_eq] at h4
    rcases h4 with h4 | h4
    · exact h4
    · have h5 := born_inj ((stamped_iff es clock).1 hst).2.1 h2 he h4
      subst h5
      rw [hx] at h3
      rw [ks_inj h3] at hp
      rw [hp] at h1
      cases h1
theorem Got.add {es : Array MapEntry} {clock : Nat} {seen : Array Nat} {pre : Bs} {ss : List Bs} (h : Got es seen pre ss) (hst : Stamped es clock) {e : MapEntry} (he : e ∈ es.toList) {x : Bs} (hx : e.key = ks x) (hp : pre.isPrefixOf x = true) (hs : seen.contains e.born = false) : Got es (seen.push e.born) pre (ss ++ [x]) := by
  have hnew : x ∉ ss := fun hm => by
    obtain ⟨_, e', h2, h3, h4⟩ := (h.mem x).1 hm
    have h5 := same_key hst h2 he (by rw [h3, hx])
    subst h5
    rw [hs] at h4
    cases h4
  refine ⟨List.nodup_append.2 ⟨h.nodup, by simp, fun a ha b hb => by simp only [List.mem_singleton] at hb; subst hb; exact fun e => hnew (e ▸ ha)⟩, fun y => ?_⟩
  rw [List.mem_append, List.mem_singleton, h.mem y]
  constructor
  · rintro (⟨h1, e', h2, h3, h4⟩ | rfl)
    · exact ⟨h1, e', h2, h3, by rw [contains_push, h4]; rfl⟩
    · exact ⟨hp, e, he, hx, by rw [contains_push]; simp⟩
  · rintro ⟨h1, e', h2, h3, h4⟩
    rw [contains_push] at h4
    simp only [Bool.or_eq_true, beq_iff_eq] at h4
    rcases h4 with h4 | h4
    · exact Or.inl ⟨h1, e', h2, h3, h4⟩
    · have h5 := born_inj ((stamped_iff es clock).1 hst).2.1 h2 he h4
      subst h5
      rw [hx] at h3
      exact Or.inr (ks_inj h3).symm
theorem Got.sub {V : Set_} {w : World} {es : Array MapEntry} {seen : Array Nat} {pre : Bs} {ss : List Bs} {ps : List (Bs × Bs)} (h : Got es seen pre ss) (hE : SEs V w es (getP ps)) : ∀ x ∈ ss, x ∈ keysP ps pre := fun x hx => by
  obtain ⟨h1, e, h2, h3, _⟩ := (h.mem x).1 hx
  obtain ⟨k, b, h4, h5, _⟩ := hE.each e h2
  rw [h3] at h4
  rw [← ks_inj h4] at h5
  unfold keysP
  exact List.mem_filter.2 ⟨List.mem_map.2 ⟨_, get_mem h5, rfl⟩, h1⟩
theorem nodup_len {a b : List Bs} (ha : a.Nodup) (hb : b.Nodup) (h : ∀ x ∈ a, x ∈ b) : a.length ≤ b.length := by
  have hp : a.Perm (b.filter fun x => decide (x ∈ a)) := (List.perm_ext_iff_of_nodup ha (hb.filter _)).2 fun x => by
    rw [List.mem_filter]
    simp only [decide_eq_true_eq]
    exact ⟨fun hx => ⟨h x hx, hx⟩, fun hx => hx.2⟩
  rw [hp.length_eq]
  exact List.length_filter_le _ _
theorem Got.len {V : Set_} {w : World} {es : Array MapEntry} {seen : Array Nat} {pre : Bs} {ss : List Bs} {ps : List (Bs × Bs)} (h : Got es seen pre ss) (hE : SEs V w es (getP ps)) (hs : SortedP ps) : ss.length ≤ ps.length := Nat.le_trans (nodup_len h.nodup (keys_nodup hs pre) (h.sub hE)) (keys_len ps pre)
theorem Got.perm {V : Set_} {w : World} {es : Array MapEntry} {seen : Array Nat} {pre : Bs} {ss : List Bs} {ps : List (Bs × Bs)} (h : Got es seen pre ss) (hE : SEs V w es (getP ps)) (hs : SortedP ps) (hall : ∀ e ∈ es.toList, seen.contains e.born = true) : ss.Perm (keysP ps pre) := by
  refine (List.perm_ext_iff_of_nodup h.nodup (keys_nodup hs pre)).2 fun x => ⟨h.sub hE x, fun hx => ?_⟩
  unfold keysP at hx
  obtain ⟨h1, h2⟩ := List.mem_filter.1 hx
  refine (h.mem x).2 ⟨h2, ?_⟩
  apply Classical.byContradiction
  intro hn
  exact mem_get h1 (hE.none x fun e he hk => hn ⟨e, he, hk, hall e he⟩)
theorem Est : Elem Tryz.prog 66 9 (.string ⟨#[]⟩) 16 := elem_of Tryz.underlying66 (by kernel_rfl) rfl (by omega)
/-- A row of strings of the call's own. -/
def OwnS (w : World) (B : Nat) (v : Value) (ss : List Bs) : Prop := OwnV 9 w B v (ss.map ks)
end Go.Proofs.YtbjgknoipbekoaaGreat
namespace Go.Proofs.YtbjgknoipbekoaaGreat
open Go.RowKit
/-- The bytes of a number, the highest first. -/
def BigOf (n : Int) (B : Bs) : Prop := ∀ i, i < B.length → IntKind.u8.wrap (n / 2 ^ (8 * (B.length - 1 - i))) = ((B.getD i 0).toNat : Int)
theorem bigof_nat (n size : Nat) : BigOf (n : Int) (bigB n size) := by
  intro i hi
  rw [big_len] at hi
  have h := big_at n size i hi
  rw [big_len, List.getD_eq_getElem?_getD, h, Option.getD_some]
  have h2 := byte_of n (size - 1 - i) _ rfl
  rw [← h2, ← pow_sh]
  simp
theorem bigof_not (g size : Nat) : BigOf (-(g : Int) - 1) ((bigB g size).map fun x => 255 - x) := by
  intro i hi
  rw [List.length_map, big_len] at hi
  have h := big_at g size i hi
  rw [List.length_map, big_len, List.getD_eq_getElem?_getD, List.getElem?_map, h, Option.map_some, Option.getD_some]
  obtain ⟨d, hd⟩ : ∃ d, size - 1 - i = d := ⟨_, rfl⟩
  rw [hd]
  obtain ⟨q, hq⟩ : ∃ q, g / 256 ^ d = q := ⟨_, rfl⟩
  have e1 : (-(g : Int) - 1) / 2 ^ (8 * d) = -(q : Int) - 1 := by
    have hp : (2 : Int) ^ (8 * d) = ((256 ^ d : Nat) : Int) := by rw [← pow_sh]; simp
    rw [hp]
    have hpos : 0 < 256 ^ d := Nat.pow_pos (by omega)
    have hm := Nat.div_add_mod g (256 ^ d)
    have hlt := Nat.mod_lt g hpos
    rw [hq] at hm
    have e : -(g : Int) - 1 = ((256 ^ d - 1 - g % 256 ^ d : Nat) : Int) + ((256 ^ d : Nat) : Int) * (-(q : Int) - 1) := by
      have hm' : ((256 ^ d : Nat) : Int) * (q : Int) + ((g % 256 ^ d : Nat) : Int) = (g : Int) := by exact_mod_cast hm
      rw [Int.mul_sub, Int.mul_neg]
      omega
    rw [e, Int.add_mul_ediv_left _ _ (by omega), Int.ediv_eq_zero_of_lt (by omega) (by omega)]
    omega
  rw [e1, IntKind.wrap_u8', hq]
  have h3 : (255 - UInt8.ofNat q).toNat = 255 - q % 256 := by
    rw [UInt8.toNat_sub_of_le _ _ (by
      rw [UInt8.le_iff_toNat_le, UInt8.toNat_ofNat']
      have : (255 : UInt8).toNat = 255 := rfl
      omega), UInt8.toNat_ofNat']
    have : (255 : UInt8).toNat = 255 := rfl
    omega
  rw [h3]
  omega
theorem bigof_step {n : Int} {B : Bs} (h : BigOf n B) {i : Nat} (hi : i < B.length) : ∃ x : UInt8, IntKind.u8.wrap (n / 2 ^ (8 * (B.length - 1 - i))) = (x.toNat : Int) ∧ B.take (i + 1) = B.take i ++ [x] := by
  refine ⟨B.getD i 0, h i hi, ?_⟩
  rw [List.take_add_one, List.getD_eq_getElem?_getD, List.getElem?_eq_getElem hi]
  rfl
set_option maxRecDepth 100000 in
set_option maxHeartbeats 2000000 in
theorem saddn_room (w : World) (g : Nat) (l B : Bs) (K size : Nat) (n : Int) (hK : l.length = K) (hr : RoomAt w g l) (hB : BigOf n B) (hBl : B.length = size) (hn1 : -4611686018427387904 ≤ n) (hn2 : n ≤ 4611686018427387904) (hs1 : 1 ≤ size) (hs : size ≤ 8) (hf : K + size ≤ 64) :
    Calls Tryz.prog 89 #[.slice (some ⟨g, 0, none⟩) K 64, .int .i64 (size : Int), .int .i64 n] w fun e w' => e = .returned (.slice (some ⟨g, 0, none⟩) (K + size) 64) ∧ RoomAt w' g (l ++ B) ∧ Aside (fun k => k = g) w w' := by
  have HR0 := hide hr
  have HK := hide hK
  have HB := hide hB
  have HBL := hide hBl
  obtain ⟨s1, hs1'⟩ : ∃ s1, size - 1 = s1 := ⟨_, rfl⟩
  have e0 : (size : Int) - 1 = (s1 : Int) := by omega
  obtain ⟨sh0, hsh0⟩ : ∃ s, 8 * s1 = s := ⟨_, rfl⟩
  have e00 : (8 : Int) * (s1 : Int) = (sh0 : Int) := by omega
  have hsb : sh0 ≤ 56 := by omega
  have HS0 : Hid (sh0 = 8 * (size - 1)) := by show _ = _; omega
  clear hr hK hB hBl hs1' hsh0
  go_enter Tryz.func89, Tryz.ntmps89
  go_wp2
  go_loopw [0, 7] (fun bb ii wr => ∃ (i : Nat) (sh : Int), i ≤ size ∧ bb = .slice (some ⟨g, 0, none⟩) (K + i) 64 ∧ ii = .int .i64 sh ∧ -8 ≤ sh ∧ sh ≤ 56 ∧ Hid (sh = (8 * ((size : Int) - 1 - (i : Int)))) ∧ Hid (RoomAt wr g (l ++ B.take i)) ∧ Hid (Aside (fun k => k = g) w wr)) (fun _ ii _ => (intOf ii + 8).toNat)
  case atStart => exact ⟨0, (sh0 : Int), by omega, rfl, rfl, by omega, by omega, by show _ = _; have := unhide HS0; omega, by show RoomAt _ _ _; rw [List.take_zero, List.append_nil]; exact unhide HR0, Aside.refl _ _⟩
  case round =>
    clear HR0 e00 e0 HS0
    obtain ⟨i, sh, hi, rfl, rfl, hsl, hsu, HSH, HR, HA⟩ := hrel
    by_cases hlt : i < size
    · obtain ⟨z, hz⟩ : ∃ z : Nat, 8 * (size - 1 - i) = z := ⟨_, rfl⟩
      obtain rfl : sh = (z : Int) := by have := unhide HSH; omega
      have f1 : decide ((0 : Int) ≤ (z : Int)) = true := by simp
      obtain ⟨q, hq⟩ : ∃ q : Int, n / 2 ^ z = q := ⟨_, rfl⟩
      obtain ⟨x, hx, HST0⟩ := bigof_step (unhide HB) (i := i) (by have := unhide HBL; omega)
      rw [unhide HBL, hz, hq] at hx
      have HST := hide HST0
      have hpos : (0 : Int) < 2 ^ z := Int.pow_pos (by omega)
      have hqb1 : -4611686018427387904 ≤ q := by
        rw [← hq]
        refine (Int.le_ediv_iff_mul_le hpos).2 ?_
        have : (1 : Int) ≤ 2 ^ z := hpos
        calc (-4611686018427387904 : Int) * 2 ^ z ≤ -4611686018427387904 * 1 := Int.mul_le_mul_of_nonpos_left (by omega) this
          _ ≤ n := by omega
      have hqb2 : q ≤ 4611686018427387904 := by
        rw [← hq]
        refine Int.ediv_le_of_le_mul hpos ?_
        have : (1 : Int) ≤ 2 ^ z := hpos
        calc n ≤ 4611686018427387904 * 1 := by omega
          _ ≤ 4611686018427387904 * 2 ^ z := Int.mul_le_mul_of_nonneg_left this (by omega)
      obtain ⟨z2, hz2⟩ : ∃ z2 : Int, (z : Int) - 8 = z2 := ⟨_, rfl⟩
      have HY := hide (one_byte wr x)
      have HR1 := hide ((unhide HR).below ((Below.refl _ _).alloc (Nat.le_refl _) (.cells #[.int .u8 (x.toNat : Int)] 5)))
      have HL : Hid ((l ++ B.take i).length = K + i) := by show _ = _; rw [List.length_append, unhide HK, List.length_take, unhide HBL]; omega
      have HA1 : Hid (Aside (fun k => k = g) w (wr.alloc (.cells #[.int .u8 (x.toNat : Int)] 5))) := (unhide HA).alloc _
      have HZ2 := hide hz2
      have HZ := hide hz
      have z2l : -8 ≤ z2 := by omega
      have z2u : z2 ≤ 56 := by omega
      clear HR HA HSH HST0 hz hpos
      go_wp2_with (at_builtin; refine wpList_append_room14 rfl _ _ rfl g (K + i) (.slice (some ⟨wr.heap.size, 0, none⟩) 1 1) (l ++ B.take i) [x] rfl (unhide HL) (unhide HR1) rfl (unhide HY) (by simp) (by simp; omega) ?_
                   intro w3 hR3 hg3
                   rw [List.append_assoc, ← unhide HST] at hR3
                   have HR3 := hide hR3
                   have HA3 : Hid (Aside (fun k => k = g) w w3) := (unhide HA1).trans (Aside.of_grown hg3 (S := fun k => k = g) fun k hk => (Option.some.inj hk).symm) fun _ _ h => h
                   clear hR3 hg3)
      refine ⟨⟨i + 1, z2, by omega, rfl, rfl, z2l, z2u, ?_, HR3, HA3⟩, ?_⟩
      · show _ = _; have := unhide HZ2; have := unhide HZ; omega
      · have := unhide HZ2; simp [intOf]; omega
    · obtain rfl : i = size := by omega
      obtain rfl : sh = -8 := by have := unhide HSH; omega
      have f1 : decide ((0 : Int) ≤ -8) = false := by simp
      have HE : Hid (RoomAt wr g (l ++ B)) := by
        have h := unhide HR
        rw [List.take_of_length_le (by rw [unhide HBL]; omega)] at h
        exact h
      clear HR
      go_wp2
      go_ret
      exact ⟨rfl, unhide HE, unhide HA⟩
/-- A row grew, perhaps several times: only its own block was written of what was there. -/
structure Gw (w : World) (v : Value) (w' : World) (v' : Value) : Prop where
  a : Aside (fun k => v.ownBlock = some k) w w'
  o : ∀ k, v'.ownBlock = some k → v.ownBlock = some k ∨ w.heap.size ≤ k
theorem Gw.refl (w : World) (v : Value) : Gw w v w v := ⟨Aside.refl _ _, fun _ h => Or.inl h⟩
theorem Gw.below {w w1 w2 : World} {v v1 : Value} (h : Gw w v w1 v1) (hb : Below w1.heap.size w1 w2) : Gw w v w2 v1 := ⟨h.a.trans (T := none_) (Aside.of_below hb) fun _ _ h => h.elim, h.o⟩
theorem Gw.trans {w w1 w2 : World} {v v1 v2 : Value} (h : Gw w v w1 v1) (g : Gw w1 v1 w2 v2) : Gw w v w2 v2 := by
  refine ⟨h.a.trans g.a fun i hi hk => ?_, fun k hk => ?_⟩
  · rcases h.o i hk with h1 | h1
    · exact h1
    · omega
  · rcases g.o k hk with h1 | h1
    · exact h.o k h1
    · exact Or.inr (Nat.le_trans h.a.size h1)
theorem Gw.of {w w' : World} {v v' : Value} (h : Grew w v w' v') : Gw w v w' v' := by
  refine ⟨Aside.of_grown h.1 fun _ h => h, fun k hk => ?_⟩
  rcases h.2 with h1 | h1
  · exact Or.inl (h1 ▸ hk)
  · rw [h1] at hk
    simp only [Option.some.injEq] at hk
    exact Or.inr (by omega)
theorem Gw.cell {w w' : World} {v v' : Value} {A k : Nat} {u : Value} (h : Gw w v w' v') (hA : v.ownBlock ≠ some A) (hc : w.cell? ⟨A, k, none⟩ = some u) : w'.cell? ⟨A, k, none⟩ = some u := cell_aside hc h.a hA
theorem Gw.off {w w' : World} {v v' : Value} {A : Nat} (h : Gw w v w' v') (hA : v.ownBlock ≠ some A) (hl : A < w.heap.size) : v'.ownBlock ≠ some A := fun e => by
  rcases h.o A e with h1 | h1
  · exact hA h1
  · omega
set_option maxRecDepth 100000 in
set_option maxHeartbeats 2000000 in
theorem saddn_own (w0 w : World) (v : Value) (l B : Bs) (size : Nat) (n : Int) (hr : Row w0 w v l) (hB : BigOf n B) (hBl : B.length = size) (hn1 : -4611686018427387904 ≤ n) (hn2 : n ≤ 4611686018427387904) (hs1 : 1 ≤ size) (hs : size ≤ 8) (hf : l.length ≤ 1000000000) :
    Calls Tryz.prog 89 #[v, .int .i64 (size : Int), .int .i64 n] w fun e w' => ∃ v', e = .returned v' ∧ Row w0 w' v' (l ++ B) ∧ Gw w v w' v' := by
  obtain ⟨sp, c, rfl⟩ := hr.own.form
  obtain ⟨LN, hLN⟩ : ∃ x, l.length = x := ⟨_, rfl⟩
  rw [hLN] at hr hf ⊢
  have HLN := hide hLN
  have HR0 := hide hr
  have HB := hide hB
  have HBL := hide hBl
  obtain ⟨s1, hs1'⟩ : ∃ s1, size - 1 = s1 := ⟨_, rfl⟩
  have e0 : (size : Int) - 1 = (s1 : Int) := by omega
  obtain ⟨sh0, hsh0⟩ : ∃ s, 8 * s1 = s := ⟨_, rfl⟩
  have e00 : (8 : Int) * (s1 : Int) = (sh0 : Int) := by omega
  have hsb : sh0 ≤ 56 := by omega
  have HS0 : Hid (sh0 = 8 * (size - 1)) := by show _ = _; omega
  clear hr hB hBl hs1' hsh0 hLN
  go_enter Tryz.func89, Tryz.ntmps89
  go_wp2
  go_loopw [0, 7] (fun bb ii wr => ∃ (i : Nat) (sh : Int) (sq : Option Addr) (cq : Nat), i ≤ size ∧ bb = .slice sq (LN + i) cq ∧ ii = .int .i64 sh ∧ -8 ≤ sh ∧ sh ≤ 56 ∧ Hid (sh = (8 * ((size : Int) - 1 - (i : Int)))) ∧ Hid (Row w0 wr (.slice sq (LN + i) cq) (l ++ B.take i)) ∧ Hid (Gw w (.slice sp LN c) wr (.slice sq (LN + i) cq))) (fun _ ii _ => (intOf ii + 8).toNat)
  case atStart => exact ⟨0, (sh0 : Int), sp, c, by omega, rfl, rfl, by omega, by omega, by show _ = _; have := unhide HS0; omega, by show Row _ _ _ _; rw [List.take_zero, List.append_nil]; exact unhide HR0, Gw.refl _ _⟩
  case round =>
    clear HR0 e00 e0 HS0
    obtain ⟨i, sh, sq, cq, hi, rfl, rfl, hsl, hsu, HSH, HR, HG⟩ := hrel
    by_cases hlt : i < size
    · obtain ⟨z, hz⟩ : ∃ z : Nat, 8 * (size - 1 - i) = z := ⟨_, rfl⟩
      obtain rfl : sh = (z : Int) := by have := unhide HSH; omega
      have f1 : decide ((0 : Int) ≤ (z : Int)) = true := by simp
      obtain ⟨q, hq⟩ : ∃ q : Int, n / 2 ^ z = q := ⟨_, rfl⟩
      obtain ⟨x, hx, HST0⟩ := bigof_step (unhide HB) (i := i) (by have := unhide HBL; omega)
      rw [unhide HBL, hz, hq] at hx
      have HST := hide HST0
      have hpos : (0 : Int) < 2 ^ z := Int.pow_pos (by omega)
      have hqb1 : -4611686018427387904 ≤ q := by
        rw [← hq]
        refine (Int.le_ediv_iff_mul_le hpos).2 ?_
        have : (1 : Int) ≤ 2 ^ z := hpos
        calc (-4611686018427387904 : Int) * 2 ^ z ≤ -4611686018427387904 * 1 := Int.mul_le_mul_of_nonpos_left (by omega) this
          _ ≤ n := by omega
      have hqb2 : q ≤ 4611686018427387904 := by
        rw [← hq]
        refine Int.ediv_le_of_le_mul hpos ?_
        have : (1 : Int) ≤ 2 ^ z := hpos
        calc n ≤ 4611686018427387904 * 1 := by omega
          _ ≤ 4611686018427387904 * 2 ^ z := Int.mul_le_mul_of_nonneg_left this (by omega)
      obtain ⟨z2, hz2⟩ : ∃ z2 : Int, (z : Int) - 8 = z2 := ⟨_, rfl⟩
      have HY := hide (one_byte wr x)
      have HR1 := hide ((unhide HR).lit (.cells #[.int .u8 (x.toNat : Int)] 5))
      have HG1 := hide ((unhide HG).below ((Below.refl _ _).alloc (Nat.le_refl _) (.cells #[.int .u8 (x.toNat : Int)] 5)))
      have HL : Hid ((l ++ B.take i).length + ([x] : Bs).length ≤ 1073741824) := by show _ ≤ _; rw [List.length_append, unhide HLN, List.length_take, unhide HBL]; simp only [List.length_singleton]; omega
      have HL2 : Hid ((l ++ B.take (i + 1)).length = LN + (i + 1)) := by show _ = _; rw [List.length_append, unhide HLN, List.length_take, unhide HBL]; omega
      have HZ2 := hide hz2
      have HZ := hide hz
      have z2l : -8 ≤ z2 := by omega
      have z2u : z2 ≤ 56 := by omega
      clear HR HG HSH HST0 hz hpos
      go_wp2_with (at_builtin; refine wpList_append_grew rfl _ _ rfl (.slice sq (LN + i) cq) (.slice (some ⟨wr.heap.size, 0, none⟩) 1 1) (l ++ B.take i) [x] rfl (unhide HR1) rfl (unhide HY) (unhide HL) ?_
                   intro v3 w3 hR3 hG3
                   rw [List.append_assoc, ← unhide HST] at hR3
                   obtain ⟨s3, c3, e3⟩ := hR3.own.form
                   rw [unhide HL2] at e3
                   subst e3
                   have HR3 := hide hR3
                   have HG3 := hide ((unhide HG1).trans (Gw.of hG3))
                   clear hR3 hG3)
      refine ⟨⟨i + 1, z2, s3, c3, by omega, rfl, rfl, z2l, z2u, ?_, HR3, HG3⟩, ?_⟩
      · show _ = _; have := unhide HZ2; have := unhide HZ; omega
      · have := unhide HZ2; simp [intOf]; omega
    · obtain rfl : i = size := by omega
      obtain rfl : sh = -8 := by have := unhide HSH; omega
      have f1 : decide ((0 : Int) ≤ -8) = false := by simp
      have HE : Hid (Row w0 wr (.slice sq (LN + i) cq) (l ++ B)) := by
        have h := unhide HR
        rw [List.take_of_length_le (by rw [unhide HBL]; omega)] at h
        exact h
      clear HR
      go_wp2
      go_ret
      exact ⟨_, rfl, unhide HE, unhide HG⟩
end Go.Proofs.YtbjgknoipbekoaaGreat
