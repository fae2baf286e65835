/-
  The landed plate: its content's put.
-/
import Derived.Test.YtlmikagmcaicoaaMp13
import Derived.Great.BuildSlice
import Derived.Deep.Cut
namespace Go.Proofs.Ytlmikagmcaicoaa
open Go.RowKit
theorem size_sector : (Try.prog.info? 64).map (·.size) = some 64 := by kernel_rfl
theorem built_sector : Try.prog.built 64 [] = some (zeros.map bv).toArray := by kernel_rfl
theorem Aside.grown {S : Set_} {a b c : World} {B : Nat} (h : Aside S a b) (hg : b.grownBy c (some B)) (hB : a.heap.size ≤ B ∨ S B) : Aside S a c :=
  ⟨hg.os.trans h.os, hg.tape.trans h.tape, hg.output.trans h.output, Nat.le_trans h.size hg.size, fun k hk hn => (hg.block k (Nat.lt_of_lt_of_le hk h.size) fun e => by
    rcases hB with hB | hB
    · have := Option.some.inj e; omega
    · exact hn (Option.some.inj e ▸ hB)).trans (h.block k hk hn)⟩
theorem sector_lit (w : World) (b : Bs) (hb : b.length = 64) : (Op.equalIn 10000 64 (.agg (b.map bv).toArray) (.agg (Value.int IntKind.u8 0 :: Value.int IntKind.u8 0 :: Value.int IntKind.u8 0 :: Value.int IntKind.u8 0 :: Value.int IntKind.u8 0 :: Value.int IntKind.u8 0 :: Value.int IntKind.u8 0 :: Value.int IntKind.u8 0 :: Value.int IntKind.u8 0 :: Value.int IntKind.u8 0 :: Value.int IntKind.u8 0 :: Value.int IntKind.u8 0 :: Value.int IntKind.u8 0 :: Value.int IntKind.u8 0 :: Value.int IntKind.u8 0 :: Value.int IntKind.u8 0 :: Value.int IntKind.u8 0 :: Value.int IntKind.u8 0 :: Value.int IntKind.u8 0 :: Value.int IntKind.u8 0 :: Value.int IntKind.u8 0 :: Value.int IntKind.u8 0 :: Value.int IntKind.u8 0 :: Value.int IntKind.u8 0 :: Value.int IntKind.u8 0 :: Value.int IntKind.u8 0 :: Value.int IntKind.u8 0 :: Value.int IntKind.u8 0 :: Value.int IntKind.u8 0 :: Value.int IntKind.u8 0 :: Value.int IntKind.u8 0 :: Value.int IntKind.u8 0 :: Value.int IntKind.u8 0 :: Value.int IntKind.u8 0 :: Value.int IntKind.u8 0 :: Value.int IntKind.u8 0 :: Value.int IntKind.u8 0 :: Value.int IntKind.u8 0 :: Value.int IntKind.u8 0 :: Value.int IntKind.u8 0 :: Value.int IntKind.u8 0 :: Value.int IntKind.u8 0 :: Value.int IntKind.u8 0 :: Value.int IntKind.u8 0 :: Value.int IntKind.u8 0 :: Value.int IntKind.u8 0 :: Value.int IntKind.u8 0 :: Value.int IntKind.u8 0 :: Value.int IntKind.u8 0 :: Value.int IntKind.u8 0 :: Value.int IntKind.u8 0 :: Value.int IntKind.u8 0 :: Value.int IntKind.u8 0 :: Value.int IntKind.u8 0 :: Value.int IntKind.u8 0 :: Value.int IntKind.u8 0 :: Value.int IntKind.u8 0 :: Value.int IntKind.u8 0 :: Value.int IntKind.u8 0 :: Value.int IntKind.u8 0 :: Value.int IntKind.u8 0 :: Value.int IntKind.u8 0 :: Value.int IntKind.u8 0 :: Value.int IntKind.u8 0 :: []).toArray)).run Try.prog w = .ok (decide (b = zeros)) w := sector_eq w b zeros hb zeros_len
set_option maxRecDepth 100000 in
set_option maxHeartbeats 4000000 in
theorem put_c (w : World) (M : Nat) (f : Nat → Bs) (hm : MAt w M f) (k : Nat) (b : Bs) (hb : b.length = 64) :
    Calls Try.prog 28 #[.map (some M), .int .i64 (k : Int), sv b] w fun e w' => e = .returned (.tuple #[]) ∧ MAt w' M (upd f k b) ∧ Aside (fun j => j = M) w w' := by
  have hq := fun w => sector_lit w b hb
  have hX : (b.map bv).toArray.size = 64 := by simp [hb]
  have hm1 := hm.below ((Below.refl _ _).alloc (Nat.le_refl _) (.cells (b.map bv).toArray 64))
  have hA := heap_alloc_new w (.cells (b.map bv).toArray 64)
  have ha1 : Aside (fun j => j = M) w (w.alloc (.cells (b.map bv).toArray 64)) := Aside.of_below ((Below.refl _ _).alloc (Nat.le_refl _) _)
  obtain ⟨wd, hrd, hmd, hgd⟩ := hm1.drop k 0
  obtain ⟨wu, hru, hmu, hgu⟩ := hm1.update k b hb
  have HD := hide (ha1.grown hgd (Or.inr rfl))
  have HU := hide (ha1.grown hgu (Or.inr rfl))
  have HMD := hide hmd
  have HMU := hide hmu
  have HA1 := hide hA
  unfold sv at hru ⊢
  clear hmd hgd hmu hgu hm hm1 ha1 hA
  by_cases he : b = zeros
  · rw [decide_eq_true he] at hq
    subst he
    obtain ⟨X, hXX⟩ : ∃ x, (zeros.map bv).toArray = x := ⟨_, rfl⟩
    rw [hXX] at hq hX hrd HA1 ⊢
    obtain ⟨W, hW⟩ : ∃ x, w.alloc (.cells X 64) = x := ⟨_, rfl⟩
    rw [hW] at hrd HA1
    clear hru HU HMU hb hXX
    go_enter Try.func28, Try.ntmps28
    go_wp2_with (refine wpList_load_row rfl 64 _ rfl w.heap.size rfl 64 X (0, 0) _ (unhide HA1) Try.underlying64 rfl (by rw [hX]; exact size_sector) ?_)
    (try simp only [Exit.inBlock, Exit.then])
    refine bodyPost_ret (results_none rfl _ _ _) rfl ?_
    exact ⟨rfl, unhide HMD, unhide HD⟩
  · rw [decide_eq_false he] at hq
    obtain ⟨X, hXX⟩ : ∃ x, (b.map bv).toArray = x := ⟨_, rfl⟩
    rw [hXX] at hq hX hru HA1 ⊢
    obtain ⟨W, hW⟩ : ∃ x, w.alloc (.cells X 64) = x := ⟨_, rfl⟩
    rw [hW] at hru HA1
    clear hrd HD HMD hb he hXX
    go_enter Try.func28, Try.ntmps28
    go_wp2_with (refine wpList_load_row rfl 64 _ rfl w.heap.size rfl 64 X (0, 0) _ (unhide HA1) Try.underlying64 rfl (by rw [hX]; exact size_sector) ?_)
    (try simp only [Exit.inBlock, Exit.then])
    refine bodyPost_end (results_none rfl _ _ _) rfl ?_
    exact ⟨rfl, unhide HMU, unhide HU⟩
end Go.Proofs.Ytlmikagmcaicoaa
