/-
  Plain words on stores (layer 15): a plate has as many sectors behind every call.
-/
import Derived.Test.YtbjgknoipbekoaaGreatQ22
namespace Go.Proofs.YtbjgknoipbekoaaGreat
theorem write_len (s : PS) (a : Int) (b : Bs) : (writeS s a b).safe.length = s.safe.length := by
  unfold writeS
  split
  · rfl
  · split
    · rfl
    · split <;> rfl
theorem sync_len (s : PS) : (syncS s).safe.length = s.safe.length := by
  unfold syncS
  split
  · rfl
  · split
    · rfl
    · exact apply_len _ _
theorem put_len : ∀ (xs : List Bs) (s : PS) (a : Nat), (W.putAll s a xs).1.safe.length = s.safe.length
  | [], s, _ => sync_len s
  | x :: xs, s, a => by
    unfold W.putAll
    split
    · rw [put_len xs, write_len]
    · exact write_len _ _ _
theorem append_len (L : LS) (s : PS) (b : Bs) : (appendP L s b).safe.length = s.safe.length := by
  unfold appendP
  split
  · rfl
  · split
    · rfl
    · split
      · rfl
      · exact put_len _ _ _
theorem clear_len (s : PS) (h g : Nat) : (clearR s h g).1.safe.length = s.safe.length := by
  unfold clearR
  split
  · show (syncS _).safe.length = _
    rw [sync_len, write_len]
  · exact write_len _ _ _
theorem mark_len' (s : PS) (g : Nat) : (markR s g).1.safe.length = s.safe.length := by
  unfold markR
  split
  · show (syncS _).safe.length = _
    rw [sync_len, write_len]
  · exact write_len _ _ _
theorem begin_len (s : PS) (h g : Nat) (b : Bs) : (beginR s h g b).1.safe.length = s.safe.length := by
  unfold beginR
  split
  · split
    · show (markR _ _).1.safe.length = _
      rw [mark_len', append_len, clear_len]
    · show (appendP _ _ _).safe.length = _
      rw [append_len, clear_len]
  · exact clear_len _ _ _
theorem commit_len (G : SS) (s : PS) (l : List Ch) : (commitS G s l).2.2.safe.length = s.safe.length := by
  unfold commitS
  split
  · rfl
  · split
    · rfl
    · split
      · rfl
      · split
        · exact append_len _ _ _
        · split
          · rfl
          · exact begin_len _ _ _ _
theorem open_len (s : PS) (h : Nat) : (openS s h).2.2.safe.length = s.safe.length := by
  unfold openS
  split
  · exact begin_len _ _ _ _
  · split
    · rfl
    · split <;> rfl
end Go.Proofs.YtbjgknoipbekoaaGreat
