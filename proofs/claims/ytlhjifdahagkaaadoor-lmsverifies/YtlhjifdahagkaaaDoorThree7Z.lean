/-
  Three rows of bytes side by side, one of which is written over, cut or made longer.
-/
import Derived.Test.YtlhjifdahagkaaaDoorSigns7Z
import Derived.Test.YtlhjifdahagkaaaDoorVer7Z
import Derived.Laws.CopyRow
import Derived.Laws.CopyOwn
namespace Go.Proofs.YtlhjifdahagkaaaDoor
open Go.RowKit
theorem bytes_none {w w' : World} {x : Value} (h : BytesAt w x []) : BytesAt w' x [] := by
  obtain ⟨sp, c, rfl, h1, h2, _⟩ := h
  exact ⟨sp, c, rfl, h1, h2, fun h => absurd rfl h⟩
/-- A byte of a row of the call's own: it is there, and may be written. -/
theorem poke {W : World} {B : Nat} {v : Value} {l : Bs} (h : OwnB W B v l) {i : Nat} (hi : i < l.length) :
    ∃ b cap c, v = .slice (some ⟨b, 0, none⟩) l.length cap ∧ c < 256 ∧ B ≤ b ∧ W.cell? ⟨b, i, none⟩ = some (.int .u8 ((c : Nat) : Int)) ∧ W.frozen? ⟨b, i, none⟩ = false ∧
      ∀ r : Nat, r < 256 → OwnB (W.setCell ⟨b, i, none⟩ (.int .u8 (r : Int))) B v (l.set i (UInt8.ofNat r)) := by
  obtain ⟨b, rest, cap, hv, hb, hc, hm, hrow⟩ := OwnV.row h (by intro e; have := congrArg List.length e; rw [List.length_map] at this; simp at this; rw [this] at hi; simp at hi)
  rw [List.length_map] at hv hc
  refine ⟨b, cap, (l.getD i 0).toNat, hv, (l.getD i 0).toNat_lt, hb, ?_, hrow.frozen i, fun r hr => ?_⟩
  · rw [hrow.cell i (by rw [List.length_map]; exact hi)]
    simp [bv, List.getD_eq_getElem?_getD, hi]
  · have e : (.int .u8 (r : Int) : Value) = .int .u8 ((UInt8.ofNat r).toNat : Int) := by rw [UInt8.toNat_ofNat']; congr 2; omega
    have h2 := hrow.set i (by rw [List.length_map]; exact hi) (.int .u8 (r : Int))
    rw [e, bv_set] at h2
    rw [e, hv]
    have h3 := h2.own hb l.length cap (by rw [List.length_map, List.length_set]) hc hm
    exact h3
structure Three (wA W : World) (vp vs vm : Value) (p s m : Bs) : Prop where
  op : OwnB W wA.heap.size vp p
  os : OwnB W wA.heap.size vs s
  om : OwnB W wA.heap.size vm m
  ps : Apart vp vs
  pm : Apart vp vm
  sm : Apart vs vm
  b : Below wA.heap.size wA W
theorem Apart.symm {v u : Value} (h : Apart v u) : Apart u v := fun k hk hq => h k hq hk
theorem Three.drew {wA W : World} {vp vs vm : Value} {p s m : Bs} (t : Three wA W vp vs vm p s m) : Three wA W.drew vp vs vm p s m := ⟨OwnV.drew t.op, OwnV.drew t.os, OwnV.drew t.om, t.ps, t.pm, t.sm, t.b.drew⟩
/-- Three slices of bytes. -/
structure Fin3 (wA W : World) (vp vm vs : Value) (p m s : Bs) : Prop where
  hp : BytesAt W vp p
  hm : BytesAt W vm m
  hs : BytesAt W vs s
  lp : p.length ≤ 200
  lm : m.length ≤ 600
  ls : s.length ≤ 40000
  b : Below wA.heap.size wA W
theorem Three.fin {wA W : World} {vp vs vm : Value} {p s m : Bs} (t : Three wA W vp vs vm p s m) (lp : p.length ≤ 200) (lm : m.length ≤ 600) (ls : s.length ≤ 40000) : Fin3 wA W vp vm vs p m s := ⟨t.op.bytes, t.om.bytes, t.os.bytes, lp, lm, ls, t.b⟩
theorem kept_of {W W' : World} {v u : Value} {B : Nat} {l : Bs} (hg : W.grownBy W' v.ownBlock) (ha : Apart v u) (hu : OwnB W B u l) : OwnB W' B u l := by
  refine OwnV.kept hu hg ?_
  cases hq : u.ownBlock with
  | none => exact Or.inl rfl
  | some k => exact Or.inr fun e => ha k e.symm hq
theorem Three.pokeP {wA W : World} {vs vm : Value} {p s m p' : Bs} {b n cap i : Nat} {x : Value} (t : Three wA W (.slice (some ⟨b, 0, none⟩) n cap) vs vm p s m) (hb : wA.heap.size ≤ b) (h : OwnB (W.setCell ⟨b, i, none⟩ x) wA.heap.size (.slice (some ⟨b, 0, none⟩) n cap) p') : Three wA (W.setCell ⟨b, i, none⟩ x) (.slice (some ⟨b, 0, none⟩) n cap) vs vm p' s m := by
  have hg : W.grownBy (W.setCell ⟨b, i, none⟩ x) (Value.slice (some ⟨b, 0, none⟩) n cap).ownBlock := grown_setCell (World.grownBy.refl _ _) _ _ rfl
  exact ⟨h, kept_of hg t.ps t.os, kept_of hg t.pm t.om, t.ps, t.pm, t.sm, t.b.setCell (p := ⟨b, i, none⟩) hb x⟩
theorem Three.pokeS {wA W : World} {vp vm : Value} {p s m s' : Bs} {b n cap i : Nat} {x : Value} (t : Three wA W vp (.slice (some ⟨b, 0, none⟩) n cap) vm p s m) (hb : wA.heap.size ≤ b) (h : OwnB (W.setCell ⟨b, i, none⟩ x) wA.heap.size (.slice (some ⟨b, 0, none⟩) n cap) s') : Three wA (W.setCell ⟨b, i, none⟩ x) vp (.slice (some ⟨b, 0, none⟩) n cap) vm p s' m := by
  have hg : W.grownBy (W.setCell ⟨b, i, none⟩ x) (Value.slice (some ⟨b, 0, none⟩) n cap).ownBlock := grown_setCell (World.grownBy.refl _ _) _ _ rfl
  exact ⟨kept_of hg t.ps.symm t.op, h, kept_of hg t.sm t.om, t.ps, t.pm, t.sm, t.b.setCell (p := ⟨b, i, none⟩) hb x⟩
theorem Three.lit {wA W : World} {vp vs vm : Value} {p s m : Bs} (t : Three wA W vp vs vm p s m) (o : Obj) : Three wA (W.alloc o) vp vs vm p s m := ⟨OwnV.alloc t.op o, OwnV.alloc t.os o, OwnV.alloc t.om o, t.ps, t.pm, t.sm, t.b.alloc t.b.size o⟩
theorem Three.growM {wA W W' : World} {vp vs vm vm' : Value} {p s m m' : Bs} (t : Three wA W vp vs vm p s m) (h : OwnB W' wA.heap.size vm' m') (hg : W.grownBy W' vm.ownBlock) (lp : p.length ≤ 200) (lm : m'.length ≤ 600) (ls : s.length ≤ 40000) : Fin3 wA W' vp vm' vs p m' s :=
  ⟨(kept_of hg t.pm.symm t.op).bytes, h.bytes, (kept_of hg t.sm.symm t.os).bytes, lp, lm, ls, ownb_below t.om hg t.b t.b.size⟩
theorem Three.growS {wA W W' : World} {vp vs vm vs' : Value} {p s m s' : Bs} (t : Three wA W vp vs vm p s m) (h : OwnB W' wA.heap.size vs' s') (hg : W.grownBy W' vs.ownBlock) (lp : p.length ≤ 200) (lm : m.length ≤ 600) (ls : s'.length ≤ 40000) : Fin3 wA W' vp vm vs' p m s' :=
  ⟨(kept_of hg t.ps.symm t.op).bytes, (kept_of hg t.sm t.om).bytes, h.bytes, lp, lm, ls, ownb_below t.os hg t.b t.b.size⟩
theorem len_sign3 (H : Bs → Bs) (hH : ∀ l, (H l).length = 32) (L h w n : Nat) (id seed msg : Bs) (hL : L ≤ 3) (hh : h ≤ 6) (hw : IsW w) : (signOf H L h w id seed n msg).length ≤ 30000 := by
  have h0 : pW w ≤ 265 := by rcases hw with rfl | rfl | rfl | rfl <;> simp [pW]
  have h1 : sizeOf h w ≤ 8800 := by unfold sizeOf; omega
  unfold signOf
  rw [List.length_append, len_big, len_signFrom H hH]
  have := Nat.mul_le_mul (show L - 1 ≤ 2 by omega) (show sizeOf h w + 56 ≤ 9000 by omega)
  omega
theorem len_sign1 (H : Bs → Bs) (L h w n : Nat) (id seed msg : Bs) : 0 < (signOf H L h w id seed n msg).length := by
  unfold signOf
  rw [List.length_append, len_big]
  omega
/-- copy into sixteen bytes. -/
theorem copy16 (w : World) (O : Nat) (hrow : w.heap[O]? = some (.cells (List.replicate 16 (.int .u8 0)).toArray 5)) (sp : Option Addr) (c : Nat) (seed : Bs) (hs : BytesAt w (.slice sp seed.length c) seed) :
    ∃ k W id, (Builtin.copy_ #[24, 24] 3 #[.slice (some ⟨O, 0, none⟩) 16 16, .slice sp seed.length c]).run Tryd.prog w = .ok k W ∧ BytesAt W (.slice (some ⟨O, 0, none⟩) 16 16) id ∧ id.length = 16 ∧ ∀ B w0, Below B w0 w → B ≤ O → Below B w0 W := by
  by_cases hne : seed = []
  · subst hne
    exact ⟨_, w, _, run_copy_none (P := Tryd.prog) w 24 24 3 5 _ _ 16 16 0 c (by rw [under_b, elem_b]) (by kernel_rfl) (by simp), bytes_row hrow, by simp, fun _ _ h _ => h⟩
  · obtain ⟨sp', c', e, h1, h2, h3⟩ := hs
    simp only [Value.slice.injEq] at e
    obtain ⟨rfl, _, rfl⟩ := e
    obtain ⟨b, o, rfl, hrg⟩ := h3 (by simpa using hne)
    have hlen : ((seed.take 16).map bv).length = Nat.min seed.length 16 := by rw [List.length_map, List.length_take]; exact Nat.min_comm _ _
    have hrun := run_copy_row (P := Tryd.prog) w 24 24 3 5 O 0 16 16 ⟨b, o, none⟩ seed.length c (List.replicate 16 (.int .u8 0)).toArray 5 ((seed.take 16).map bv) (by rw [under_b, elem_b]) (by kernel_rfl) hrow hlen
      (fun j v hv => by rw [Addr.add_mid]; refine hrg j v ?_; rw [← hv, List.getElem?_map, List.getElem?_map, List.getElem?_take, if_pos (by have := (List.getElem?_eq_some_iff.1 hv).1; rw [hlen] at this; exact Nat.lt_of_lt_of_le this (Nat.min_le_right _ _))])
      (by rw [hlen]; simp; exact Nat.min_le_right _ _) (one_bytes _)
    refine ⟨_, _, seed.take 16 ++ (List.replicate 16 0).drop (Nat.min seed.length 16), hrun, ?_, ?_, fun B w0 h hB => below_setRow h hB _⟩
    · have hrow2 : RowAt 5 (w.setRow O (List.take 0 (List.replicate 16 (Value.int .u8 0)).toArray.toList ++ (seed.take 16).map bv ++ List.drop (0 + ((seed.take 16).map bv).length) (List.replicate 16 (Value.int .u8 0)).toArray.toList).toArray) O [] ((seed.take 16 ++ (List.replicate 16 0).drop (Nat.min seed.length 16)).map bv) := by
        unfold RowAt
        rw [setRow_heap w O _ _ 5 (0, 0) hrow, hlen, List.append_nil, List.map_append, List.map_drop, List.map_replicate]
        simp [bv]
      have hle : ((seed.take 16 ++ (List.replicate 16 0).drop (Nat.min seed.length 16)).map bv).length = 16 := by
        rw [List.length_map, List.length_append, List.length_take, List.length_drop, List.length_replicate]
        have : Nat.min seed.length 16 = min seed.length 16 := rfl
        omega
      exact OwnB.bytes (hrow2.own (base := 0) (Nat.zero_le _) 16 16 hle (by simp) (by simp only [maxLen]; omega))
    · rw [List.length_append, List.length_take, List.length_drop, List.length_replicate]
      have : Nat.min seed.length 16 = min seed.length 16 := rfl
      omega
end Go.Proofs.YtlhjifdahagkaaaDoor
