/-
  The landed plate keeps the record.
-/
import Derived.Test.YtlmikagmcaicoaaPh13
namespace Go.Proofs.Ytlmikagmcaicoaa
open Go.RowKit
theorem plate_kept : Plate PAt where
  ptr := fun h => by obtain ⟨B, _, _, _, rfl, _⟩ := h; exact ⟨_, rfl⟩
  ok := fun h => by obtain ⟨_, _, _, _, _, hf, _⟩ := h; exact hf.ok
  old := fun h k hk => by
    obtain ⟨B, T, M, lv, _, hf, hS, hR⟩ := h
    rcases hk with hk | hk
    · rcases (hS k).1 hk with rfl | rfl | rfl | h
      · exact heap_lt hf.str
      · exact hf.there.lt
      · exact hf.safe.lt
      · exact (hf.own.lt k h).2
    · exact (hR k hk).elim
  apart := fun h k _ hk => by obtain ⟨_, _, _, _, _, _, _, hR⟩ := h; exact hR k hk
  kept := fun h hb hT => by
    obtain ⟨B, T, M, lv, rfl, hf, hS, hR⟩ := h
    refine ⟨B, T, M, lv, rfl, hf.aside hb fun k hk => ?_, hS, hR⟩
    have h1 := (hT k hk).1
    rw [hS] at h1
    exact ⟨fun e => h1 (Or.inl e), fun e => h1 (Or.inr (Or.inl e)), fun e => h1 (Or.inr (Or.inr (Or.inl e))), fun e => h1 (Or.inr (Or.inr (Or.inr e)))⟩
  new_yes := new_yes
  new_no := new_no
  sectors := sectors_c
  down := down_c
  loose := loose_c
  write := fun a x b h hx hxs hbl hll _ _ => write_c a x b h hx hxs hbl hll
  read := fun a h _ _ _ => read_c a h
  sync := sync_c
  arm := arm_c
  revive := revive_c
  clone := clone_c
end Go.Proofs.Ytlmikagmcaicoaa
