/-
  Tell of the landed feed (i).
-/
import Derived.Test.YtbblhogdfdpipaaTe17
import Derived.Test.YtbblhogdfdpipaaBx17i
namespace Go.Proofs.Ytbblhogdfdpipaa
open Go.Conc Go.RowKit Go.MapKept
set_option maxRecDepth 100000 in
set_option maxHeartbeats 4000000 in
theorem telli_c {X : Set_} {w : World} {p : Value} {R : Rs Int} (h : FeedAt KI X w p R) (x : Int) (hlo : ∀ n b, rd R n = some b → b.lost < 1000000000) : Calls Try.prog 10 #[p, .int .i64 x] w fun e w' => e = .returned (.int .i64 (live R : Int)) ∧ Turned KI X w w' p (tellR R x) := by
  obtain ⟨P, bm, Q, C, rfl, h⟩ := h
  have hval : KI.val x = .int .i64 x := rfl
  obtain ⟨w0, hw0⟩ : ∃ y, w.alloc (.cells #[.int .i64 x] 3) = y := ⟨_, rfl⟩
  have b0 : Below w.heap.size w w0 := hw0 ▸ (Below.refl _ _).alloc (Nat.le_refl _) _
  have s0 : w0.heap.size = w.heap.size + 1 := by rw [← hw0, World.size_alloc]
  have c0 : w0.cell? ⟨w.heap.size, 0, none⟩ = some (.int .i64 x) := by rw [← hw0]; exact cell_of_row _ _ _ _ 3 (0, 0) (heap_alloc_new w _)
  have h0 := h.below b0
  obtain ⟨es, clock, hE, _, w1, hrun, hR1, hb1⟩ := range_i mapT_i h0.map
  have k0 := h0.f0
  rw [s0] at hrun hR1 hb1
  have s1 : w.heap.size + 2 ≤ w1.heap.size := by have := hR1.ne; omega
  have c1 : w1.cell? ⟨w.heap.size, 0, none⟩ = some (.int .i64 x) := by
    rw [World.cell?_of_block (hb1.block _ (Nat.lt_succ_self _))]; exact c0
  have b1 : Below w.heap.size w w1 := b0.trans (hb1.mono (Nat.le_succ _))
  have HT := hide (Tel.start h hE hR1 b1 rfl rfl s1 (hval ▸ c1))
  have HL := hide hlo
  clear h h0 b0 s0 c0 hE hR1 hb1 s1 c1 b1 hlo
  go_enter Try.func10, Try.ntmps10
  simp only [pt]
  go_wp2
  go_loopw [6] (fun _ wr => ∃ (R' : Rs Int) (seen : Array Nat), Hid (Tel KI (fun k => X k ∨ k = w.heap.size) w wr P bm w.heap.size (w.heap.size + 1) Q C R R' x es clock seen)) (fun _ wr => leftIn wr bm (w.heap.size + 1))
  case atStart => exact ⟨R, #[], HT⟩
  case round =>
    clear hrun HT k0
    obtain ⟨R', seen, HT⟩ := hrel
    rcases (unhide HT).rng.next 0 with ⟨hall, hrun⟩ | ⟨e, he, hsn, w2, hrun, hR2, hA2, hsz2, hlt2, hent⟩
    · have HD := hide ((unhide HT).done hall rfl)
      have hmap := (unhide HT).fc.map
      rw [(unhide HT).told.live] at hmap
      have hlen := hmap.len mapT_i 3
      have k0 := (unhide HT).fc.f0
      clear hall hmap HT
      go_wp2
      go_ret
      exact ⟨rfl, unhide HD⟩
    · have hlft : (leftOf es (seen.push e.born)).size < leftIn wr bm (w.heap.size + 1) := by rw [(unhide HT).rng.left]; exact hlt2
      obtain ⟨n, b, hk, hv, hrn, hb2, hit2, hnext⟩ := (unhide HT).step plain_i he hsn hR2 hA2
      have HLT := hide hlft
      have HP := hide (puti_c hb2 (Or.inr rfl) hit2 (unhide HL n b hrn))
      have HN := hide hnext
      rw [hk, hv] at hrun hent
      simp only [ki, pt] at hrun hent HP
      obtain ⟨q, hq⟩ : ∃ y, Q n.toNat = y := ⟨_, rfl⟩
      rw [hq] at hrun hent HP
      have HQ := hide hq
      clear hlft hk hv hrn hb2 hit2 hnext he hsn hR2 hA2 hsz2 hlt2 HT HL hq
      go_wp2_with (go_at_call 21; refine (unhide HP).mono ?_
                   rintro e3 w3 ⟨rfl, hb3, ha3, hs3⟩
                   have HT3 := hide (unhide HN w3 (by rw [unhide HQ]; exact hb3) (by rw [unhide HQ]; exact ha3))
                   clear hb3 ha3 hs3)
      exact ⟨⟨_, _, HT3⟩, by rw [(unhide HT3).rng.left]; exact unhide HLT⟩
end Go.Proofs.Ytbblhogdfdpipaa
