/-
  The walk of the landed write.
  slices.Chunk and the function that it gives, as the landed wal ranges over it: the parts of 48 bytes, in order.
  What stands in the loop of the landed sectorsOf.
  A region that draws, in a round of a loop over a function; an append as a step of such a region.
-/
import Derived.Test.YtbjgknoipbekoaaGreatQ10
import Derived.Deep.RegionHeld3
import Derived.Test.YtbjgknoipbekoaaGreatQ9
import Derived.RangeFuncNested
import Derived.RangeFuncBound
import Derived.RangeFuncCalls
import Derived.RangeFuncLeaves
import Derived.Shelf.Abstract
import Derived.Shelf.RegionOpen
import Derived.WalkKit
import Derived.OwnWalkIn
import Derived.TacticsInMore
import Derived.LoopNIn
import Derived.LoopIn
import Derived.Deep.MidRow
namespace Go.Proofs.YtbjgknoipbekoaaGreat
open Go.RowKit
/-- What stands in write's loop: i sectors are written, the plate stands as s1. -/
structure WrI (PAt : Set_ → Set_ → World → Value → PS → Prop) (S R : Set_) (w wr : World) (p : Value) (s : PS) (a : Nat) (xs : List Bs) (i : Nat) (S1 R1 : Set_) (s1 : PS) : Prop where
  p : PAt S1 R1 wr p s1
  subS : ∀ k, S1 k → S k ∨ w.heap.size ≤ k
  subR : ∀ k, R1 k → R k ∨ w.heap.size ≤ k
  aside : Aside S w wr
  eq : W.putAll s a xs = W.putAll s1 (a + i) (xs.drop i)
  few : s1.loose.length ≤ s.loose.length + i
theorem aside_drawn {S : Set_} {a b : World} (h : Aside S a.drew b) : Aside S a b := ⟨h.os, h.tape, h.output, h.size, h.block⟩
theorem WrI.next {PAt : Set_ → Set_ → World → Value → PS → Prop} {S R : Set_} {w wr w4 : World} {p : Value} {s : PS} {a : Nat} {xs : List Bs} {i : Nat} {S1 R1 S2 R2 : Set_} {s1 s2 : PS} (h : WrI PAt S R w wr p s a xs i S1 R1 s1) (hp : PAt S2 R2 w4 p s2) (hS : ∀ k, S2 k → S1 k ∨ wr.drew.heap.size ≤ k) (hR : ∀ k, R2 k → R1 k ∨ wr.drew.heap.size ≤ k) (hA : Aside S1 wr.drew w4)
    (he : W.putAll s a xs = W.putAll s2 (a + (i + 1)) (xs.drop (i + 1))) (hf : s2.loose.length ≤ s1.loose.length + 1) : WrI PAt S R w w4 p s a xs (i + 1) S2 R2 s2 := by
  have hs : w.heap.size ≤ wr.heap.size := h.aside.size
  refine ⟨hp, fun k hk => ?_, fun k hk => ?_, (h.aside.drew).trans hA fun k hk h1 => ?_, he, by have := h.few; omega⟩
  · rcases hS k hk with h1 | h1
    · exact h.subS k h1
    · exact Or.inr (Nat.le_trans hs h1)
  · rcases hR k hk with h1 | h1
    · exact h.subR k h1
    · exact Or.inr (Nat.le_trans hs h1)
  · rcases h.subS k h1 with h2 | h2
    · exact h2
    · exact absurd hk (by omega)
theorem WrI.end_ {PAt : Set_ → Set_ → World → Value → PS → Prop} {S R : Set_} {w wr w4 : World} {p : Value} {s : PS} {a : Nat} {xs : List Bs} {i : Nat} {S1 R1 S2 R2 : Set_} {s1 : PS} (h : WrI PAt S R w wr p s a xs i S1 R1 s1) (hS : ∀ k, S2 k → S1 k ∨ wr.heap.size ≤ k) (hR : ∀ k, R2 k → R1 k ∨ wr.heap.size ≤ k) (hA : Aside S1 wr w4) : (∀ k, S2 k → S k ∨ w.heap.size ≤ k) ∧ (∀ k, R2 k → R k ∨ w.heap.size ≤ k) ∧ Aside S w w4 := by
  have hs : w.heap.size ≤ wr.heap.size := h.aside.size
  refine ⟨fun k hk => ?_, fun k hk => ?_, h.aside.trans hA fun k hk h1 => ?_⟩
  · rcases hS k hk with h1 | h1
    · exact h.subS k h1
    · exact Or.inr (Nat.le_trans hs h1)
  · rcases hR k hk with h1 | h1
    · exact h.subR k h1
    · exact Or.inr (Nat.le_trans hs h1)
  · rcases h.subS k h1 with h2 | h2
    · exact h2
    · exact absurd hk (by omega)
theorem write_few (s : PS) (a : Int) (b : Bs) : (writeS s a b).loose.length ≤ s.loose.length + 1 := by
  unfold writeS
  split
  · omega
  · split
    · omega
    · split
      · show s.loose.length ≤ _; omega
      · show (s.loose ++ _).length ≤ _; simp
section
variable {PAt : Set_ → Set_ → World → Value → PS → Prop} (HP : Plate PAt)
set_option maxRecDepth 100000 in
set_option maxHeartbeats 8000000 in
include HP in
theorem wwrite_c {S R : Set_} {w : World} {pa : Addr} {s : PS} (B : Nat) (v u : Value) (L : LS) (us : List Value) (xs : List Bs) (hp : PAt S R w (.pointer (some pa)) s) (hstr : w.heap[B]? = some (.cells (logC (.pointer (some pa)) v L).toArray 131 (0, 0))) (hB : ¬ S B)
    (hu : GrowF 0 w u us xs) (hub : ∀ k, u.ownBlock = some k → ¬ S k) (hus : ∀ y ∈ us, ∀ k, y.ownBlock = some k → ¬ S k) (hn : xs.length ≤ 2000) (hl : s.loose.length ≤ 2000) (h64 : ∀ x ∈ xs, x.length = 64) (ha : L.start + usedR L.rs ≤ 100000) :
    Calls Tryz.prog 74 #[.pointer (some ⟨B, 0, none⟩), u] w fun e w' => e = .returned (.int .i64 (W.putAll s (L.start + usedR L.rs) xs).2) ∧ ∃ S' R', PAt S' R' w' (.pointer (some pa)) (W.putAll s (L.start + usedR L.rs) xs).1 ∧ (∀ k, S' k → S k ∨ w.heap.size ≤ k) ∧ (∀ k, R' k → R k ∨ w.heap.size ≤ k) ∧ Aside S w w' := by
  obtain ⟨a, hA⟩ : ∃ y, L.start + usedR L.rs = y := ⟨_, rfl⟩
  obtain ⟨k0, k1, _⟩ := seven_row hstr
  rw [hA] at k1 ha ⊢
  have hBlt : B < w.heap.size := (Array.getElem?_eq_some_iff.1 hstr).1
  obtain ⟨su, cu, eu⟩ := hu.lists.form
  obtain ⟨N, hN⟩ : ∃ y, xs.length = y := ⟨_, rfl⟩
  rw [hN] at eu hn
  subst eu
  have HU := hide hu
  have HUb := hide hub
  have HUs := hide hus
  have HN := hide hN
  have H64 := hide h64
  have HBl := hide hBlt
  have HBn := hide hB
  have Hk0 := hide k0
  have Hk1 := hide k1
  have HL := hide hl
  have HI0 : Hid (WrI PAt S R w w (.pointer (some pa)) s a xs 0 S R s) := ⟨hp, fun k h => Or.inl h, fun k h => Or.inl h, Aside.refl _ _, rfl, Nat.le_refl _⟩
  obtain ⟨PE, hPE⟩ : ∃ y, W.putAll s a xs = y := ⟨_, rfl⟩
  rw [hPE]
  have HPE := hide hPE
  clear hu hub hus hN h64 hp hstr hB hBlt hA hPE hl k0 k1
  go_enter Tryz.func74, Tryz.ntmps74
  go_wp2
  go_loopw [5, 6, 7, 10] (fun _ _ _ ii wr => ∃ (i : Nat) (S1 R1 : Set_) (s1 : PS), i ≤ N ∧ ii = .int .i64 (i : Int) ∧ Hid (WrI PAt S R w wr (.pointer (some pa)) s a xs i S1 R1 s1)) (fun _ _ _ ii _ => N - (intOf ii).toNat)
  case atStart => exact ⟨0, S, R, s, by omega, rfl, HI0⟩
  case round =>
    clear HI0
    obtain ⟨i, S1, R1, s1, hi, rfl, HI⟩ := hrel
    have c0 := cell_aside (unhide Hk0) (unhide HI).aside (unhide HBn)
    have c1 := cell_aside (unhide Hk1) (unhide HI).aside (unhide HBn)
    by_cases hlt : i < N
    · have f1 : decide ((i : Int) < (N : Int)) = true := by simp; omega
      have f1n : decide (i < N) = true := by simp; omega
      have j0 : (0 : Int) ≤ (i : Int) := by omega
      have j1 : (i : Int) < (N : Int) := by omega
      obtain ⟨b, hb⟩ : ∃ y, xs[i]? = some y := ⟨_, List.getElem?_eq_getElem (by have := unhide HN; omega)⟩
      have hgr := (unhide HU).aside (unhide HI).aside (unhide HUb) (unhide HUs)
      have hul : i < us.length := by have := hgr.len; have := unhide HN; omega
      obtain ⟨g1, o1, v1, rfl, d1, b1⟩ := hgr.lists.at hb
      have hv1 : us[i]? = some v1 := by
        obtain ⟨sp', c', e', h1', h2', h3'⟩ := hgr.own.vals
        simp only [Value.slice.injEq] at e'
        obtain ⟨e1', _, _⟩ := e'
        obtain ⟨b', o', e2', hc'⟩ := h3' (by intro e; rw [e] at hul; simp at hul)
        rw [← e1'] at e2'
        simp only [Option.some.injEq, Addr.mk.injEq] at e2'
        obtain ⟨rfl, rfl, _⟩ := e2'
        have := hc' i _ (List.getElem?_eq_getElem hul)
        rw [d1] at this
        rw [List.getElem?_eq_getElem hul]
        exact this.symm
      have hvS : ∀ k, v1.ownBlock = some k → ¬ S1 k := fun k hk h1 => by
        rcases (unhide HI).subS k h1 with h2 | h2
        · exact unhide HUs v1 (List.mem_of_getElem? hv1) k hk h2
        · have := ((unhide HU).lt.2 v1 (List.mem_of_getElem? hv1) k hk).2
          omega
      have hw := HP.write ((a + i : Nat) : Int) v1 b (HP.kept (unhide HI).p (T := none_) (Aside.of_below (Below.refl wr.heap.size wr).drew) fun _ h => h.elim) (b1.below (Below.refl _ _).drew) (fun _ => hvS) (by rw [unhide H64 b (List.mem_of_getElem? hb)]; omega) (by have := (unhide HI).few; have := unhide HL; omega) (by omega) (by omega)
      obtain ⟨A, hAi⟩ : ∃ y, a + i = y := ⟨_, rfl⟩
      have eA : (a : Int) + (i : Int) = (A : Int) := by omega
      have wA : IntKind.i64.wrap (A : Int) = (A : Int) := by rw [IntKind.wrap_i64]; omega
      rw [hAi] at hw
      have HAi := hide hAi
      have hdr : xs.drop i = b :: xs.drop (i + 1) := by rw [List.drop_eq_getElem_cons (by have := unhide HN; omega)]; congr 1; rw [List.getElem?_eq_getElem (by have := unhide HN; omega)] at hb; exact Option.some.inj hb
      have heq := (unhide HI).eq
      rw [unhide HPE, hdr, hAi] at heq
      unfold W.putAll at heq
      have Hw := hide hw
      have Hws := hide (write_few s1 (A : Int) b)
      clear hw hgr hul hv1 hvS b1 hb hdr hAi
      by_cases hz : writeE s1 (A : Int) b = 0
      · rw [if_pos hz] at heq
        have Heq : Hid (W.putAll s a xs = W.putAll (writeS s1 (A : Int) b) (a + (i + 1)) (xs.drop (i + 1))) := by show _ = _; rw [unhide HPE, heq, show a + (i + 1) = A + 1 from by have := unhide HAi; omega]
        rw [hz] at Hw
        clear heq hz
        go_wp2
        go_region_held3 (fun w' => w'.cell? ⟨B, 0, none⟩ = some (.pointer (some pa)) ∧ w'.cell? ⟨B, 1, none⟩ = some (.int .i64 (a : Int))) (go_keep)
          ((first
            | (go_at_call 93
               refine (unhide Hw).mono ?_
               rintro e w4 ⟨rfl, S2, R2, hp4, hS4, hR4, hA4⟩
               have HI4 := hide ((unhide HI).next hp4 hS4 hR4 hA4 (unhide Heq) (unhide Hws))
               have c0' := cell_aside (unhide Hk0) (unhide HI4).aside (unhide HBn)
               have c1' := cell_aside (unhide Hk1) (unhide HI4).aside (unhide HBn)
               clear hp4 hS4 hR4 hA4)))
        clear c0 c1 c0' c1' d1 Hw
        go_wp2
        refine ⟨⟨i + 1, S2, R2, _, by omega, by simp, HI4⟩, ?_⟩
        simp [intOf]
        omega
      · rw [if_neg hz] at heq
        obtain ⟨E, hE⟩ : ∃ y, writeE s1 (A : Int) b = y := ⟨_, rfl⟩
        rw [hE] at Hw heq hz
        have g1 : (E != 0) = true := by simpa using hz
        have Heq := hide heq
        clear heq hE hz
        go_wp2
        go_region_held3 (fun w' => w'.cell? ⟨B, 0, none⟩ = some (.pointer (some pa)) ∧ w'.cell? ⟨B, 1, none⟩ = some (.int .i64 (a : Int))) (go_keep)
          ((first
            | (go_at_call 93
               refine (unhide Hw).mono ?_
               rintro e w4 ⟨rfl, S2, R2, hp4, hS4, hR4, hA4⟩
               have HP4 := hide hp4
               have HE4 := hide ((unhide HI).end_ (wr := wr) hS4 hR4 (aside_drawn hA4))
               have c0' := cell_aside (unhide Hk0) (unhide HE4).2.2 (unhide HBn)
               have c1' := cell_aside (unhide Hk1) (unhide HE4).2.2 (unhide HBn)
               clear hp4 hS4 hR4 hA4)))
        clear c0 c1 c0' c1' d1 Hw
        go_wp2
        go_ret
        rw [unhide Heq]
        exact ⟨rfl, S2, R2, unhide HP4, unhide HE4⟩
    · obtain rfl : i = N := by omega
      have f1 : decide ((i : Int) < (i : Int)) = false := by simp
      have heq := (unhide HI).eq
      rw [unhide HPE, List.drop_of_length_le (by have := unhide HN; omega)] at heq
      unfold W.putAll at heq
      have Hs := hide (HP.sync (unhide HI).p (by have := (unhide HI).few; have := unhide HL; omega))
      have Heq := hide heq
      clear heq
      go_wp2_with fail
      refine (unhide Hs).mono ?_
      rintro e w4 ⟨rfl, S2, R2, hp4, hS4, hR4, hA4⟩
      have HP4 := hide hp4
      have HE4 := hide ((unhide HI).end_ hS4 hR4 hA4)
      clear hp4 hS4 hR4 hA4 Hs c0 c1
      go_wp2
      go_ret
      rw [unhide Heq]
      exact ⟨rfl, S2, R2, unhide HP4, unhide HE4⟩
end
end Go.Proofs.YtbjgknoipbekoaaGreat
namespace Go.Proofs.YtbjgknoipbekoaaGreat
open Go.RowKit Go.Shelf
attribute [local go_sem] Oper.semAt_some
/-- How many bytes the part number k has. -/
def ckN (N k : Nat) : Nat := if N - 48 * k < 48 then N - 48 * k else 48
/-- The part number k of a slice of N bytes at ⟨G, O⟩. -/
def ckV (G O N k : Nat) : Value := .slice (some ⟨G, O + 48 * k, none⟩) (ckN N k) (ckN N k)
/-- The first k parts. -/
def firstK (N : Nat) : (k : Nat) → 48 * k < N + 48 → List { k : Nat // 48 * k < N }
  | 0, _ => []
  | k + 1, h => firstK N k (by omega) ++ [⟨k, by omega⟩]
theorem firstK_len (N : Nat) : ∀ (k : Nat) (h : 48 * k < N + 48), (firstK N k h).length = k
  | 0, _ => rfl
  | k + 1, h => by unfold firstK; rw [List.length_append, firstK_len N k]; rfl
theorem slice_mid3 (G O K c f e : Nat) (hf : f < e) (he : e ≤ c) (w : World) : (Instr.sliceAt 23 (.slice (some ⟨G, O, none⟩) K c) (some (.int .i64 (f : Int))) (some (.int .i64 (e : Int))) (some (.int .i64 (e : Int)))).run Tryz.prog w = .ok (.slice (some ⟨G, O + f, none⟩) (e - f) (e - f)) w := by
  rw [run_sliceAt_slice w 23 _ _ _ _ under_b, run_slice_lhm w 23 (some ⟨G, O, none⟩) K c under_b .i64 .i64 .i64 (f : Int) (e : Int) (e : Int) (by omega) (by omega) (by omega) (by omega), elem_b, size5, Result.andThen_ok]
  simp only [sliced, Int.toNat_natCast, Nat.mul_one]
  rw [if_neg (by omega), Option.map_some, Addr.add_mid]
/-- What a round keeps. -/
def KeepC (Bs Bn : Nat) (W W' : World) : Prop := W'.cell? ⟨Bs, 0, none⟩ = W.cell? ⟨Bs, 0, none⟩ ∧ W'.cell? ⟨Bn, 0, none⟩ = W.cell? ⟨Bn, 0, none⟩
theorem keepc_t {Bs Bn : Nat} {A B C : World} (h : KeepC Bs Bn A B) (k : KeepC Bs Bn B C) : KeepC Bs Bn A C := ⟨k.1.trans h.1, k.2.trans h.2⟩
theorem keepc_b {Bs Bn : Nat} {w : World} (h1 : Bs < w.heap.size) (h2 : Bn < w.heap.size) (W : World) (l : Nat) (o o' : Obj) (hl : w.heap.size ≤ l) (_ : W.heap[l]? = some o) (_ : o.isCells = false) (_ : o.isWalk = false) : KeepC Bs Bn W (W.putObj l o') :=
  ⟨World.cell?_of_block (World.putObj_heap_other (by show Bs ≠ l; omega)), World.cell?_of_block (World.putObj_heap_other (by show Bn ≠ l; omega))⟩
set_option maxRecDepth 100000 in
set_option maxHeartbeats 4000000 in
theorem chunkf_in (n : Nat) (hn : 1 ≤ n) (l Bs Bn G O N c m : Nat) (hc : N ≤ c) (hNb : N ≤ 1000000) (hm1 : N ≤ 48 * m) (hm2 : 48 * m < N + 48) (J Jx : List { k : Nat // 48 * k < N } → World → Prop) (W0 : Nat) (hJ : AbidesFrom W0 J)
    (hY : ∀ pre x W, J pre W → pre.length < m → YieldAt Fence.wide (n - 1) Tryz.prog l #[ckV G O N x.1] W fun e W' =>
      (e = .returned (.bool true) ∧ J (pre ++ [x]) W' ∧ KeepC Bs Bn W W') ∨ (e = .returned (.bool false) ∧ Jx (pre ++ [x]) W'))
    (W : World) (hBs : W.cell? ⟨Bs, 0, none⟩ = some (.slice (some ⟨G, O, none⟩) N c)) (hBn : W.cell? ⟨Bn, 0, none⟩ = some (.int .i64 48)) (h0 : J [] W) :
    CallsIn Fence.wide n Tryz.prog 104 #[.func (.yield l) #[] #[], .pointer (some ⟨Bs, 0, none⟩), .pointer (some ⟨Bn, 0, none⟩)] W fun e W' => (∃ v, e = .returned v) ∧
      ((∃ ys, ys = firstK N m hm2 ∧ J ys W') ∨ (∃ pre, True ∧ Jx pre W')) := by
  refine callsIn_of_wp Tryz.func104 rfl trivial ?_ rfl
  simp only [Tryz.ntmps104, List.size_toArray, List.length_cons, List.length_nil, Nat.reduceAdd, Nat.reduceSub, Array.replicate_succ, Array.replicate_zero, List.push_toArray, List.append_toArray, List.nil_append, List.cons_append]
  gi_wp2
  gi_loopw [4, 5] (fun i _ wr => ∃ (k : Nat) (hk : 48 * k < N + 48), k ≤ m ∧ i = .int .i64 ((48 * k : Nat) : Int) ∧ Hid (J (firstK N k hk) wr ∧ KeepC Bs Bn W wr))
    (fun i _ _ => N + 48 - (intOf i).toNat)
  case atStart => exact ⟨0, by omega, by omega, rfl, h0, rfl, rfl⟩
  case round =>
    obtain ⟨k, hk, hkm, rfl, HJ⟩ := hrel
    have hcs : wr.cell? ⟨Bs, 0, none⟩ = some (.slice (some ⟨G, O, none⟩) N c) := (unhide HJ).2.1.trans hBs
    have hcn : wr.cell? ⟨Bn, 0, none⟩ = some (.int .i64 48) := (unhide HJ).2.2.trans hBn
    obtain ⟨I, hI⟩ : ∃ y, 48 * k = y := ⟨_, rfl⟩
    rw [hI]
    by_cases hlt : I < N
    · have f1 : decide ((I : Int) < (N : Int)) = true := by simp; omega
      have f1n : decide (I < N) = true := by simp; omega
      have hkN : 48 * k < N := by omega
      obtain ⟨fn, tmps, assign, body, hy, hRd⟩ := hY (firstK N k hk) ⟨k, hkN⟩ wr.drew (hJ _ _ _ none (unhide HJ).1 (World.grownBy.refl wr none).drew fun r e => by cases e) (by rw [firstK_len]; omega)
      unfold ckV at hy
      dsimp only at hy
      obtain ⟨E, hE⟩ : ∃ y, ckN N k = y := ⟨_, rfl⟩
      have hEp : 0 < E ∧ I + E ≤ N := by rw [← hE]; unfold ckN; split <;> omega
      obtain ⟨R, hR⟩ : ∃ y, N - I = y := ⟨_, rfl⟩
      have hsl1 : ∀ w, (Instr.sliceAt 23 (.slice (some ⟨G, O, none⟩) N c) (some (.int .i64 (I : Int))) none none).run Tryz.prog w = .ok (.slice (cutAt (some ⟨G, O, none⟩) c I) R (c - I)) w := fun w => by
        have := slice_rest (some ⟨G, O, none⟩) N c I (by omega) w
        rwa [hR] at this
      obtain ⟨T, hT⟩ : ∃ y, I + E = y := ⟨_, rfl⟩
      have eT : (I : Int) + (E : Int) = (T : Int) := by omega
      have hsl2 : ∀ w, (Instr.sliceAt 23 (.slice (some ⟨G, O, none⟩) N c) (some (.int .i64 (I : Int))) (some (.int .i64 (T : Int))) (some (.int .i64 (T : Int)))).run Tryz.prog w = .ok (.slice (some ⟨G, O + I, none⟩) E E) w := fun w => by
        have := slice_mid3 G O N c I T (by omega) (by omega) w
        rwa [show T - I = E by omega] at this
      rw [hE, hI] at hy
      have hRb : R ≤ 1000000 := by omega
      by_cases h48 : R < 48
      · have g1 : (R : Int) < 48 := by omega
        have g2 : decide ((R : Int) < 48) = true := by simp; omega
        obtain rfl : E = R := by rw [← hE]; unfold ckN; rw [hI, hR, if_pos h48]
        have HI := hide hI
        have HIE : Hid (48 * (k + 1) = I + 48) := by show _ = _; omega
        clear hE hI hR hT hY
        gi_wp2
        gi_region
        gi_wp2
        refine hRd.mono ?_
        rintro e W3 (⟨rfl, hJ3, hk3⟩ | ⟨rfl, hJx3⟩)
        · have c3 : W3.cell? ⟨Bn, 0, none⟩ = some (.int .i64 48) := hk3.2.trans hcn
          have HN : Hid (J (firstK N (k + 1) (by omega)) W3 ∧ KeepC Bs Bn W W3) := ⟨hJ3, keepc_t (unhide HJ).2 hk3⟩
          gi_wp2
          go_roundw
          case rel => exact ⟨k + 1, by omega, by omega, by rw [unhide HIE]; simp, HN⟩
          case measure => simp [intOf]; omega
        · gi_wp2
          refine bodyPost_ret (results_none rfl _ _ _) rfl ?_
          exact ⟨⟨_, rfl⟩, .inr ⟨_, trivial, hJx3⟩⟩
      · have g1 : ¬ (R : Int) < 48 := by omega
        have g2 : decide ((R : Int) < 48) = false := by simp; omega
        obtain rfl : E = 48 := by rw [← hE]; unfold ckN; rw [hI, hR, if_neg h48]
        have HI := hide hI
        have HIE : Hid (48 * (k + 1) = I + 48) := by show _ = _; omega
        clear hE hI hR hT hY
        gi_wp2
        gi_region
        gi_wp2
        refine hRd.mono ?_
        rintro e W3 (⟨rfl, hJ3, hk3⟩ | ⟨rfl, hJx3⟩)
        · have c3 : W3.cell? ⟨Bn, 0, none⟩ = some (.int .i64 48) := hk3.2.trans hcn
          have HN : Hid (J (firstK N (k + 1) (by omega)) W3 ∧ KeepC Bs Bn W W3) := ⟨hJ3, keepc_t (unhide HJ).2 hk3⟩
          gi_wp2
          go_roundw
          case rel => exact ⟨k + 1, by omega, by omega, by rw [unhide HIE]; simp, HN⟩
          case measure => simp [intOf]; omega
        · gi_wp2
          refine bodyPost_ret (results_none rfl _ _ _) rfl ?_
          exact ⟨⟨_, rfl⟩, .inr ⟨_, trivial, hJx3⟩⟩
    · have f1 : decide ((I : Int) < (N : Int)) = false := by simp; omega
      obtain rfl : k = m := by omega
      have HE := hide (unhide HJ).1
      clear hI
      gi_wp2
      go_end0
      exact ⟨⟨_, rfl⟩, .inl ⟨_, rfl, unhide HE⟩⟩
theorem chunk_stops (n : Nat) (hn : 1 ≤ n) (Bs Bn G O N c m : Nat) (hc : N ≤ c) (hNb : N ≤ 1000000) (hm1 : N ≤ 48 * m) (hm2 : 48 * m < N + 48) (w : World) (h1 : Bs < w.heap.size) (h2 : Bn < w.heap.size) (hBs : w.cell? ⟨Bs, 0, none⟩ = some (.slice (some ⟨G, O, none⟩) N c)) (hBn : w.cell? ⟨Bn, 0, none⟩ = some (.int .i64 48)) :
    SeqStopsK Fence.wide n Tryz.prog 104 #[.pointer (some ⟨Bs, 0, none⟩), .pointer (some ⟨Bn, 0, none⟩)] (fun x : { k : Nat // 48 * k < N } => #[ckV G O N x.1]) (KeepC Bs Bn) (fun ys => ys = firstK N m hm2) (fun _ => True) m w := fun l J Jx W hW hJ _ hY h0 =>
  chunkf_in n hn l Bs Bn G O N c m hc hNb hm1 hm2 J Jx W.heap.size hJ hY W ((hW.cell (p := ⟨Bs, 0, none⟩) h1).trans hBs) ((hW.cell (p := ⟨Bn, 0, none⟩) h2).trans hBn) h0
set_option maxRecDepth 100000 in
theorem chunk_c (w : World) (sp : Option Addr) (N c : Nat) : Calls Tryz.prog 90 #[.slice sp N c, .int .i64 48] w fun e w' => e = .returned (.func (.func 104) #[] #[.pointer (some ⟨w.heap.size, 0, none⟩), .pointer (some ⟨w.heap.size + 1, 0, none⟩)]) ∧ w' = (w.alloc (.cells #[.slice sp N c] 23)).alloc (.cells #[.int .i64 48] 3) := by
  go_enter Tryz.func90, Tryz.ntmps90
  go_wp2
  go_ret
  exact ⟨rfl, rfl⟩
end Go.Proofs.YtbjgknoipbekoaaGreat
namespace Go.Proofs.YtbjgknoipbekoaaGreat
open Go.RowKit
theorem OwnV.cells {e : TypeId} {w : World} {B : Nat} {v : Value} {cs : List Value} (h : OwnV e w B v cs) : ∀ k, v.ownBlock = some k → ∃ o : Obj, w.heap[k]? = some o ∧ o.isCells = true := by
  intro k hk
  rcases h.2 with ⟨rfl, _⟩ | ⟨g, cap, cur, rfl, _, hg, _⟩
  · cases hk
  · simp only [Value.ownBlock, Option.some.injEq] at hk
    subst hk
    exact ⟨_, hg, rfl⟩
theorem GrowF.cells {B : Nat} {w : World} {v : Value} {vs : List Value} {l : List Bs} (h : GrowF B w v vs l) : (∀ k, v.ownBlock = some k → ∃ o : Obj, w.heap[k]? = some o ∧ o.isCells = true) ∧ ∀ u ∈ vs, ∀ k, u.ownBlock = some k → ∃ o : Obj, w.heap[k]? = some o ∧ o.isCells = true := by
  refine ⟨h.own.cells, fun u hu k hk => ?_⟩
  obtain ⟨i, hi, rfl⟩ := List.getElem_of_mem hu
  obtain ⟨⟨e, h1⟩, _⟩ := h.each i _ _ (List.getElem?_eq_getElem hi) (List.getElem?_eq_getElem (by have := h.len; omega))
  exact h1.cells k hk
/-- Blocks that hold no cells are turned: what grows stays. -/
theorem GrowF.turn {B : Nat} {W W' : World} {row : Option Nat} {v : Value} {vs : List Value} {l : List Bs} (h : GrowF B W v vs l) (hg : W.grownBy W' row) (hr : ∀ r, row = some r → ∃ o : Obj, W.heap[r]? = some o ∧ o.isCells = false) : GrowF B W' v vs l := by
  obtain ⟨c1, c2⟩ := h.cells
  have key : ∀ k, (∃ o : Obj, W.heap[k]? = some o ∧ o.isCells = true) → ¬ row = some k := fun k ⟨o, ho, hc⟩ e => by
    obtain ⟨o', ho', hc'⟩ := hr k e
    rw [ho] at ho'
    cases ho'
    rw [hc] at hc'
    cases hc'
  exact h.aside (Aside.of_grown hg (S := fun k => row = some k) fun k hk => hk) (fun k hk => key k (c1 k hk)) fun u hu k hk => key k (c2 u hu k hk)
theorem keeps_below {W W' : World} (h : Below W.heap.size W W') : KeepsOthers W W' := ⟨h.size, fun k _ hk _ => (h.block k (Array.getElem?_eq_some_iff.1 hk).1).trans hk⟩
/-- The sectors that are made of parts. -/
def secsOf (q : Bs) (g o n la N : Nat) (pre : List { k : Nat // 48 * k < N }) : List Bs := pre.mapIdx fun i x => headS g o n i la ++ ((q.drop (48 * x.1)).take 48 ++ List.replicate (48 - ((q.drop (48 * x.1)).take 48).length) 0)
theorem secs_next (q : Bs) (g o n la N : Nat) (pre : List { k : Nat // 48 * k < N }) (x : { k : Nat // 48 * k < N }) : secsOf q g o n la N (pre ++ [x]) = secsOf q g o n la N pre ++ [headS g o n pre.length la ++ ((q.drop (48 * x.1)).take 48 ++ List.replicate (48 - ((q.drop (48 * x.1)).take 48).length) 0)] := by
  unfold secsOf
  rw [List.mapIdx_concat]
/-- What stands in the loop: H the head's block, V the variable's, from B0 on what is made in it. -/
structure SB (w : World) (B0 H V G O N c g o n la : Nat) (q : Bs) (pre : List { k : Nat // 48 * k < N }) (W : World) (v : Value) (vs : List Value) : Prop where
  hd : HdAt W H g o n pre.length la
  var : W.heap[V]? = some (.cells [v].toArray 44 (0, 0))
  rows : GrowF B0 W v vs (secsOf q g o n la N pre)
  data : BytesAt W (.slice (some ⟨G, O, none⟩) N c) q
  b : Below w.heap.size w W
  b0 : B0 ≤ W.heap.size
theorem SB.turn {w : World} {B0 H V G O N c g o n la : Nat} {q : Bs} {pre : List { k : Nat // 48 * k < N }} {W W' : World} {v : Value} {vs : List Value} {row : Option Nat} (h : SB w B0 H V G O N c g o n la q pre W v vs) (hH : H < B0) (hV : V < B0) (hG : G < B0) (hw : w.heap.size ≤ B0)
    (hg : W.grownBy W' row) (hr : ∀ r, row = some r → B0 ≤ r ∧ ∃ o : Obj, W.heap[r]? = some o ∧ o.isCells = false) : SB w B0 H V G O N c g o n la q pre W' v vs := by
  have hA : Aside (fun k => B0 ≤ k) W W' := Aside.of_grown hg fun k hk => (hr k hk).1
  have hs := h.b0
  refine ⟨?_, ?_, h.rows.turn hg fun r e => (hr r e).2, h.data.aside hA fun k hk => ?_, h.b.trans (hA.below h.b.size fun k hk => by omega), Nat.le_trans h.b0 hg.size⟩
  · unfold HdAt; rw [hA.block H (by omega) (by omega)]; exact h.hd
  · rw [hA.block V (by omega) (by omega)]; exact h.var
  · simp only [Value.ownBlock, Option.some.injEq] at hk
    omega
theorem SB.next {w : World} {B0 H V G O N c g o n la : Nat} {q : Bs} {pre : List { k : Nat // 48 * k < N }} {x : { k : Nat // 48 * k < N }} {W W1 W3 W5 : World} {v v' s : Value} {vs : List Value} {T : TypeId} (h : SB w B0 H V G O N c g o n la q pre W v vs) (hH : H < B0) (hV : V < B0) (hG : G < B0) (hHV : H ≠ V) (hGH : G ≠ H) (hGV : G ≠ V) (hwH : w.heap.size ≤ H) (hwV : w.heap.size ≤ V)
    (hb1 : Below W.heap.size W W1) (hrow : Row W1 W3 s (headS g o n pre.length la ++ ((q.drop (48 * x.1)).take 48 ++ List.replicate (48 - ((q.drop (48 * x.1)).take 48).length) 0)))
    (ho : OwnV 23 W5 B0 v' (vs ++ [s])) (hg : (W3.alloc (.cells #[s] T)).grownBy W5 v.ownBlock) (hor : v'.ownBlock = v.ownBlock ∨ v'.ownBlock = some (W3.alloc (.cells #[s] T)).heap.size) :
    SB w B0 H V G O N c g o n la q (pre ++ [x]) ((W5.setCell ⟨V, 0, none⟩ v').setCell ⟨H, 3, none⟩ (.int .i64 ((pre.length : Int) + 1))) v' (vs ++ [s]) ∧ KeepsOthers W ((W5.setCell ⟨V, 0, none⟩ v').setCell ⟨H, 3, none⟩ (.int .i64 ((pre.length : Int) + 1))) ∧ ∀ k, k < B0 → k ≠ H → k ≠ V → ((W5.setCell ⟨V, 0, none⟩ v').setCell ⟨H, 3, none⟩ (.int .i64 ((pre.length : Int) + 1))).heap[k]? = W.heap[k]? := by
  have hb0 := h.b0
  have h1s := hb1.size
  have hrow1 := h.rows.below hb1
  obtain ⟨hG5, hB5⟩ := hrow1.next (by omega) hrow.own.any hrow.b ho hg hor
  have hWs : W3.heap.size ≤ (W3.alloc (.cells #[s] T)).heap.size := by simp
  have h3s := hrow.b.size
  have h5s := hg.size
  have hA : Aside (fun k => B0 ≤ k) W W5 := (Aside.of_below hb1).trans (T := fun k => B0 ≤ k) ⟨hB5.os, hB5.tape, hB5.output, hB5.size, fun k _ hk => hB5.block k (by omega)⟩ fun _ _ h => h
  have hd5 : HdAt W5 H g o n pre.length la := by unfold HdAt; rw [hA.block H (by omega) (by omega)]; exact h.hd
  have hv5 : W5.heap[V]? = some (.cells [v].toArray 44 (0, 0)) := by rw [hA.block V (by omega) (by omega)]; exact h.var
  have hk5 : KeepsOthers W W5 := by
    have k1 : KeepsOthers W (W3.alloc (.cells #[s] T)) := (keeps_below hb1).trans ((keeps_below hrow.b).trans (KeepsOthers.alloc _ _))
    refine k1.trans (KeepsOthers.of_grownBy hg fun j ob e hob => ?_)
    have hown4 : OwnV 23 (W3.alloc (.cells #[s] T)) B0 v vs := (hrow1.own.below hrow.b).alloc _
    obtain ⟨o2, ho2, hc2⟩ := hown4.cells j e
    rw [hob] at ho2
    cases ho2
    exact hc2
  obtain ⟨W6, hW6⟩ : ∃ y, W5.setCell ⟨V, 0, none⟩ v' = y := ⟨_, rfl⟩
  have g6 : W5.grownBy W6 (some V) := by rw [← hW6]; exact setCell_grown V 0 v'
  have v6 : W6.heap[V]? = some (.cells [v'].toArray 44 (0, 0)) := by rw [← hW6]; exact row_put hv5 0 (by simp) v'
  have k6 : KeepsOthers W5 W6 := by rw [← hW6]; exact KeepsOthers.setCell _ _ _
  rw [hW6]
  obtain ⟨W7, hW7⟩ : ∃ y, W6.setCell ⟨H, 3, none⟩ (.int .i64 ((pre.length : Int) + 1)) = y := ⟨_, rfl⟩
  have A6 : Aside (fun k => k = V) W5 W6 := Aside.of_grown g6 fun k hk => (Option.some.inj hk).symm
  have hd6 : HdAt W6 H g o n pre.length la := by unfold HdAt; rw [A6.block H (by omega) hHV]; exact hd5
  have g7 : W6.grownBy W7 (some H) := by rw [← hW7]; exact setCell_grown H 3 _
  have k7 : KeepsOthers W6 W7 := by rw [← hW7]; exact KeepsOthers.setCell _ _ _
  have A7 : Aside (fun k => k = H) W6 W7 := Aside.of_grown g7 fun k hk => (Option.some.inj hk).symm
  have hd7 : HdAt W7 H g o n (pre.length + 1) la := by
    have := row_put hd6 3 (by simp [hdC]) (.int .i64 ((pre.length : Int) + 1))
    rw [hW7] at this
    unfold HdAt
    rw [this]
    rfl
  rw [hW7]
  have A67 : Aside (fun k => k = V ∨ k = H) W5 W7 := (A6.mono fun _ _ h => Or.inl h).trans (T := fun k => k = V ∨ k = H) (A7.mono fun _ _ h => Or.inr h) fun _ _ h => h
  obtain ⟨l1, l2⟩ := hG5.lt
  have s6 := g6.size
  have s7 := g7.size
  refine ⟨⟨by rw [List.length_append]; exact hd7, ?_, ?_, ?_, ?_, by omega⟩, hk5.trans (k6.trans k7), fun k hk hkH hkV => ?_⟩
  · rw [A7.block V (by omega) (fun e => hHV e.symm)]; exact v6
  · rw [secs_next]
    exact hG5.aside A67 (fun k hk e => by have := (l1 k hk).1; omega) fun u hu k hk e => by have := (l2 u hu k hk).1; omega
  · refine (h.data.aside hA fun k hk => ?_).aside A67 fun k hk => ?_
    · simp only [Value.ownBlock, Option.some.injEq] at hk
      omega
    · simp only [Value.ownBlock, Option.some.injEq] at hk
      omega
  · have b5 : Below w.heap.size w W5 := h.b.trans (hA.below h.b.size fun k hk => by omega)
    exact b5.trans (A67.below b5.size fun k hk => by omega)
  · rw [A67.block k (by omega) (by omega), hA.block k (by omega) (by omega)]
end Go.Proofs.YtbjgknoipbekoaaGreat
namespace Go.Proofs.YtbjgknoipbekoaaGreat
open Go.RowKit
/-- In a round, at the wide fence, an operation that is no defer is carried out as everywhere. -/
theorem wpIn_of_wp {l n : Nat} {P : Program} {o : Oper} {a : Act} {w : World} {K : Act → World → Prop} {Q : Exit → Act → World → Prop} (hd : ∀ c, o.op ≠ .defer c) (h : o.wp P a w K Q) : o.wpIn (Fence.wide.inRound l) n P a w K Q := by
  refine ⟨fun _ _ => trivial, ?_⟩
  rw [show o.semAt (Fence.wide.inRound l).round a.eval = execOp a.eval o from Oper.semAt_some l _ _ hd]
  unfold Oper.wp at h
  generalize (execOp a.eval o).run P w = r at h ⊢
  cases r with
  | ok nx w' =>
    cases nx
    case enter f args => exact ⟨fun (e : Fence.wide.depth.isSome = true) => (by simp [Fence.wide] at e), CallsIn.inRound l (callsIn_wide.2 h)⟩
    case row r args =>
      refine ⟨fun (e : Fence.wide.depth.isSome = true) => (by simp [Fence.wide] at e), fun c cs _ => ?_⟩
      obtain ⟨v, w2, h1, h2⟩ := h c cs
      exact ⟨v, w2, h1, stepsIn_wide.2 h2⟩
    all_goals first | exact h | exact h.elim
  | halt x w' => cases x <;> first | exact h | exact h.elim
theorem wpAnyIn_of_held {l n : Nat} {P : Program} {md : Region.Mode} {ops : Array Oper} {Q : Exit → Act → World → Prop} {S : World → Prop} (hd : ∀ (i : Nat) (o : Oper), ops[i]? = some o → ∀ c, o.op ≠ .defer c) (hQ : ¬ LetsOut Q) :
    ∀ (fuel : Nat) (listed : Array Bool) (a : Act) (w : World), wpAnyH P md ops Q S fuel listed a w → wpAnyIn (Fence.wide.inRound l) n P md ops Q fuel listed a w
  | 0, _, _, _, h => h
  | fuel + 1, listed, a, w, h => by
    refine ⟨h.1, fun i hi => ?_⟩
    have h2 := h.2 i hi
    unfold wpOp at h2
    unfold wpOpIn
    cases ho : ops[i]? with
    | none =>
      rw [ho] at h2
      exact wpAnyIn_of_held hd hQ fuel _ a w h2.2
    | some o =>
      rw [ho] at h2
      simp only at h2 ⊢
      split
      · rename_i hw
        rw [if_pos hw] at h2
        rcases h2 with h3 | ⟨_, h3⟩
        · exact Oper.wpIn_mono (fun a' w' h4 => wpAnyIn_of_held hd hQ fuel _ a' w' h4.2) (wpIn_of_wp (hd i o ho) h3)
        · exact absurd h3 hQ
      · rename_i hw
        rw [if_neg hw] at h2
        exact ⟨fun _ _ => trivial, wpAnyIn_of_held hd hQ fuel _ _ w h2.2⟩
theorem region_in_round {l n id : Nat} {P : Program} {ops : Array Oper} {Q : Exit → Act → World → Prop} {S : World → Prop} {a : Act} {w : World} (hm : P.follows .mixedOrders = true) (hd : (ops.all fun o => match o.op with | .defer _ => false | _ => true) = true) (hQ : ¬ LetsOut Q) (hS : S w.drew)
    (h : S w.drew → wpAnyH P .any ops Q S ops.size (Array.replicate ops.size false) a w.drew) : (Code.region id ops true).wpIn (Fence.wide.inRound l) n P Q a w :=
  wpIn_region_any hm (wpAnyIn_of_held (fun i o ho c e => by
    have h1 := Array.all_eq_true_iff_forall_mem.1 hd o (Array.mem_of_getElem? ho)
    rw [e] at h1
    cases h1) hQ _ _ _ _ (h hS))
theorem step_append_vals {t e : TypeId} {z : Value} {by_ : Nat} (E : Elem Tryz.prog t e z by_) {w : World} {ops : Array Oper} {o : Oper} {a : Act} {K : Act → World → Prop} {Q : Exit → Act → World → Prop} {F : Prop} (hgd : o.guard = none) (s x : Operand)
    (ho : o.op = .call { callee := .builtin .append, args := #[s, x], argTypes := #[t, t] }) (base : Nat) (v y : Value) (cs ds : List Value) (hs : a.eval s = v) (hown : OwnV e w base v cs)
    (hx : a.eval x = y) (hy : ValsAt w y ds) (h1 : ∀ u ∈ ds, u.oneCell' = true) (hb : base ≤ w.heap.size) (hlen : cs.length + ds.length ≤ 1073741824)
    (h : ∀ v' w', OwnV e w' base v' (cs ++ ds) → w.grownBy w' v.ownBlock → (v'.ownBlock = v.ownBlock ∨ v'.ownBlock = some w.heap.size) → K (a.put o.dst v') w') : if Region.wanted o (yielded ops a.tmps) = true then Oper.wp Tryz.prog o a w K Q else F := by
  have hw : Region.wanted o (yielded ops a.tmps) = true := by simp [Region.wanted, hgd]
  rw [if_pos hw]
  obtain ⟨v', w', hrun, h2, h3, h4⟩ := run_append_vals E w base v y cs ds hown hy h1 hb hlen o.type
  unfold Oper.wp execOp
  simp only [ho, resolve, invoke, builtin, Sem.run_bind, Sem.run_pure, Result.andThen_ok, List.map_toArray, List.map_cons, List.map_nil, hs, hx, hrun]
  exact h v' w' h2 h3 h4
/-- The bytes of a part. -/
theorem part_bytes {W : World} {G O N c k : Nat} {q : Bs} (h : BytesAt W (.slice (some ⟨G, O, none⟩) N c) q) (hN : q.length = N) (hk : 48 * k < N) : BytesAt W (ckV G O N k) ((q.drop (48 * k)).take 48) ∧ ((q.drop (48 * k)).take 48).length = ckN N k ∧ 0 < ckN N k := by
  have hl : ((q.drop (48 * k)).take 48).length = ckN N k := by rw [List.length_take, List.length_drop, hN]; unfold ckN; split <;> omega
  have hp : 0 < ckN N k := by unfold ckN; split <;> omega
  refine ⟨?_, hl, hp⟩
  obtain ⟨sp', c', ex, h1, h2, h3⟩ := h
  simp only [Value.slice.injEq] at ex
  obtain ⟨rfl, _, rfl⟩ := ex
  obtain ⟨b, o, e, hc⟩ := h3 (by intro e; have := congrArg List.length e; rw [List.length_map, hN] at this; simp at this; omega)
  simp only [Option.some.injEq, Addr.mk.injEq] at e
  obtain ⟨rfl, rfl, _⟩ := e
  refine ⟨some ⟨G, O + 48 * k, none⟩, ckN N k, by rw [List.length_map, hl]; rfl, by rw [List.length_map, hl]; exact Nat.le_refl _, fun e => (by cases e), fun _ => ⟨G, O + 48 * k, rfl, fun j v hv => ?_⟩⟩
  have hj : j < 48 := by have := (List.getElem?_eq_some_iff.1 hv).1; rw [List.length_map, List.length_take] at this; omega
  have := hc (48 * k + j) v (by rw [← hv, List.getElem?_map, List.getElem?_map, List.getElem?_take, if_pos hj, List.getElem?_drop])
  rwa [show O + (48 * k + j) = O + 48 * k + j by omega] at this
theorem secs_first (q : Bs) (g o n la N : Nat) : ∀ (k : Nat) (h : 48 * k < N + 48), secsOf q g o n la N (firstK N k h) = (List.range k).map fun i => headS g o n i la ++ ((q.drop (48 * i)).take 48 ++ List.replicate (48 - ((q.drop (48 * i)).take 48).length) 0)
  | 0, _ => rfl
  | k + 1, h => by
    unfold firstK
    rw [secs_next, secs_first q g o n la N k, firstK_len, List.range_succ, List.map_append]
    rfl
theorem part_pad (b : Bs) (i : Nat) (hi : i < needs b.length) : (((bigB b.length 4 ++ b).drop (48 * i)).take 48 ++ List.replicate (48 - (((bigB b.length 4 ++ b).drop (48 * i)).take 48).length) 0) = ((bodyOf b).drop (48 * i)).take 48 := by
  have hf := needs_fit b.length
  have hn : 48 * i < 4 + b.length := by unfold needs at hi; omega
  have hl : (bigB b.length 4 ++ b).length = 4 + b.length := by rw [List.length_append, big_len]
  unfold bodyOf
  rw [← List.append_assoc]
  obtain ⟨q, hq⟩ : ∃ q, bigB b.length 4 ++ b = q := ⟨_, rfl⟩
  rw [hq] at hl ⊢
  rw [List.drop_append_of_le_length (by rw [hl]; omega), List.take_append, List.take_replicate, List.length_take, List.length_drop, hl]
  congr 2
  omega
theorem secs_rec (b : Bs) (g o n N : Nat) (h : 48 * needs b.length < N + 48) : secsOf (bigB b.length 4 ++ b) g o n (needs b.length - 1) N (firstK N (needs b.length) h) = recS b g o n := by
  rw [secs_first]
  unfold recS
  refine List.map_congr_left fun i hi => ?_
  rw [part_pad b i (List.mem_range.1 hi)]
  rfl
end Go.Proofs.YtbjgknoipbekoaaGreat
