/-
  Steps in memory; the statements' small, walked.
-/
import Derived.Test.YtlmikagmcaicoaaStep13b
namespace Go.Proofs.Ytlmikagmcaicoaa
open Go.RowKit
/-- A slice of steps, below block B. -/
def OpsAt (B : Nat) (w : World) (x : Value) (l : List OpP) : Prop :=
  ∃ sp c, x = .slice sp l.length c ∧ (l ≠ [] → ∃ b o, sp = some ⟨b, o, none⟩ ∧ b < B ∧ ∀ (i : Nat) (op : OpP), l[i]? = some op → -9223372036854775808 ≤ op.at_ ∧ op.at_ ≤ 9223372036854775807 ∧ ∃ kv, CellsAt w b (o + i * 5) (ocells op kv) ∧ ValsAt w kv (op.keep.map .bool) ∧ (op.keep ≠ [] → ∀ k, kv.ownBlock = some k → k < B))
theorem ValsAt.low {B : Nat} {a b : World} {x : Value} {cs : List Value} (h : ValsAt a x cs) (hb : Below B a b) (hx : cs ≠ [] → ∀ k, x.ownBlock = some k → k < B) : ValsAt b x cs := by
  obtain ⟨sp, c, rfl, h1, h2, h3⟩ := h
  refine ⟨sp, c, rfl, h1, h2, fun hl => ?_⟩
  obtain ⟨bb, o, rfl, hr⟩ := h3 hl
  refine ⟨bb, o, rfl, fun j v hv => ?_⟩
  rw [World.cell?_of_block (hb.block bb (hx hl bb (by simp [Value.ownBlock])))]; exact hr j v hv
theorem OpsAt.low {B : Nat} {a b : World} {x : Value} {l : List OpP} (h : OpsAt B a x l) (hb : Below B a b) : OpsAt B b x l := by
  obtain ⟨sp, c, rfl, h3⟩ := h
  refine ⟨sp, c, rfl, fun hl => ?_⟩
  obtain ⟨bb, o, e, hlt, hc⟩ := h3 hl
  refine ⟨bb, o, e, hlt, fun i op hi => ?_⟩
  obtain ⟨q1, q2, kv, k1, k2, k3⟩ := hc i op hi
  exact ⟨q1, q2, kv, fun j u hu => by rw [World.cell?_of_block (hb.block bb hlt)]; exact k1 j u hu, k2.low hb (fun hne => k3 (fun e => hne (by rw [e]; rfl))), k3⟩
/-- One step of the slice. -/
theorem OpsAt.at {B : Nat} {w : World} {sp : Option Addr} {n c i : Nat} {l : List OpP} (h : OpsAt B w (.slice sp n c) l) (hi : i < l.length) : ∃ op b o sk nk ck, l[i]? = some op ∧ sp = some ⟨b, o, none⟩ ∧ w.cell? ⟨b, o + i * 5, none⟩ = some (.int .i64 op.kind) ∧ w.cell? ⟨b, o + i * 5 + 1, none⟩ = some (.int .i64 op.at_) ∧ w.cell? ⟨b, o + i * 5 + 2, none⟩ = some (.int .i64 op.size) ∧ w.cell? ⟨b, o + i * 5 + 3, none⟩ = some (.int .u8 (op.fill.toNat : Int)) ∧ w.cell? ⟨b, o + i * 5 + 4, none⟩ = some (.slice sk nk ck) ∧ ValsAt w (.slice sk nk ck) (op.keep.map .bool) ∧ (op.keep ≠ [] → ∀ k, (Value.slice sk nk ck).ownBlock = some k → k < B) ∧ -9223372036854775808 ≤ op.at_ ∧ op.at_ ≤ 9223372036854775807 := by
  obtain ⟨sp', c', e, h3⟩ := h
  simp only [Value.slice.injEq] at e
  obtain ⟨rfl, _, _⟩ := e
  obtain ⟨b, o, e2, hlt, hc⟩ := h3 (fun e => by rw [e] at hi; simp at hi)
  obtain ⟨q1, q2, kv, k1, k2, k3⟩ := hc i l[i] (List.getElem?_eq_getElem hi)
  obtain ⟨sk, ck, rfl⟩ := k2.form
  exact ⟨l[i], b, o, sk, _, ck, List.getElem?_eq_getElem hi, e2, k1 0 _ rfl, k1 1 _ rfl, k1 2 _ rfl, k1 3 _ rfl, k1 4 _ rfl, k2, k3, q1, q2⟩
def smallO (o : OpP) : Bool := decide (0 ≤ o.size) && decide (o.size ≤ 200)
def smallP (l : List OpP) : Bool := decide (l.length ≤ 200) && l.all smallO
theorem small_ok {l : List OpP} (h : smallP l = true) {i : Nat} {op : OpP} (hi : l[i]? = some op) (h1 : -9223372036854775808 ≤ op.at_) (h2 : op.at_ ≤ 9223372036854775807) : op.Ok := by
  unfold smallP at h
  simp only [Bool.and_eq_true, List.all_eq_true] at h
  have := h.2 op (List.mem_of_getElem? hi)
  unfold smallO at this
  simp only [Bool.and_eq_true, decide_eq_true_eq] at this
  exact ⟨this.1, this.2, h1, h2⟩
theorem small_len {l : List OpP} (h : smallP l = true) : l.length ≤ 200 := by
  unfold smallP at h
  simp only [Bool.and_eq_true, decide_eq_true_eq] at h
  exact h.1
set_option maxRecDepth 100000 in
set_option maxHeartbeats 4000000 in
theorem small_c (B : Nat) (w : World) (x : Value) (l : List OpP) (h : OpsAt B w x l) (hB : B ≤ w.heap.size) : Calls Try.prog 11 #[x] w fun e w' => e = .returned (.bool (smallP l)) ∧ Below w.heap.size w w' := by
  obtain ⟨sp, c, rfl, _⟩ := id h
  obtain ⟨n, hn⟩ : ∃ n, l.length = n := ⟨_, rfl⟩
  rw [hn] at h ⊢
  have H := hide h
  have HN := hide hn
  by_cases h2 : 200 < n
  · have e1 : smallP l = false := by unfold smallP; rw [hn, decide_eq_false (by omega)]; rfl
    have d1 : decide ((200 : Int) < (n : Int)) = true := by simp; omega
    have d1n : decide (200 < n) = true := by simp; omega
    rw [e1]
    clear h hn e1
    go_enter Try.func11, Try.ntmps11
    go_wp2
    go_ret
    exact ⟨rfl, Below.refl _ _⟩
  · have d1 : decide ((200 : Int) < (n : Int)) = false := by simp; omega
    have d1n : decide (200 < n) = false := by simp; omega
    obtain ⟨ANS, hA⟩ : ∃ y, smallP l = y := ⟨_, rfl⟩
    rw [hA]
    have HA := hide hA
    clear h hn hA
    go_enter Try.func11, Try.ntmps11
    go_wp2
    go_loopw [10] (fun ii wr => ∃ i : Nat, i ≤ n ∧ ii = .int .i64 (i : Int) ∧ Hid (∀ (j : Nat) (op : OpP), j < i → l[j]? = some op → smallO op = true) ∧ Hid (Below w.heap.size w wr)) (fun ii _ => n - (intOf ii).toNat)
    case atStart => exact ⟨0, by omega, rfl, fun j op hj => absurd hj (by omega), Below.refl _ _⟩
    case round =>
      obtain ⟨i, hi, rfl, Hs, Hb⟩ := hrel
      by_cases hlt : i < n
      · obtain ⟨op, b, o, sk, nk, ck, hop, rfl, c0, c1, c2, c3, c4, _, _, _, _⟩ := (unhide H |>.low ((unhide Hb).mono hB)).at (i := i) (by have := unhide HN; omega)
        have f1 : decide ((i : Int) < (n : Int)) = true := by simp; omega
        have f1n : decide (i < n) = true := by simp; omega
        have j0 : (0 : Int) ≤ (i : Int) := by omega
        have j1 : (i : Int) < (n : Int) := by omega
        obtain ⟨F, hF⟩ : ∃ y, op.fill.toNat = y := ⟨_, rfl⟩
        obtain ⟨Z, hZ⟩ : ∃ y, op.size = y := ⟨_, rfl⟩
        obtain ⟨KD, hKD⟩ : ∃ y, op.kind = y := ⟨_, rfl⟩
        obtain ⟨AT, hAT⟩ : ∃ y, op.at_ = y := ⟨_, rfl⟩
        rw [hF] at c3
        rw [hZ] at c2
        rw [hKD] at c0
        rw [hAT] at c1
        have hr3 := heap_alloc_new wr (.cells [.int .i64 KD, .int .i64 AT, .int .i64 Z, .int .u8 (F : Int), .slice sk nk ck].toArray 32)
        have Hb3 : Hid (Below w.heap.size w (wr.alloc (.cells [.int .i64 KD, .int .i64 AT, .int .i64 Z, .int .u8 (F : Int), .slice sk nk ck].toArray 32))) := (unhide Hb).alloc (unhide Hb).size _
        obtain ⟨w3, hw3⟩ : ∃ y, wr.alloc (.cells #[.int .i64 KD, .int .i64 AT, .int .i64 Z, .int .u8 (F : Int), .slice sk nk ck] 32) = y := ⟨_, rfl⟩
        obtain ⟨A, hA⟩ : ∃ y, wr.heap.size = y := ⟨_, rfl⟩
        rw [show wr.alloc (.cells [.int .i64 KD, .int .i64 AT, .int .i64 Z, .int .u8 (F : Int), .slice sk nk ck].toArray 32) = w3 from hw3] at hr3 Hb3
        rw [hA] at hr3
        obtain ⟨_, _, a2, _, _⟩ := five_row hr3
        have Hsm : Hid (smallO op = (decide (0 ≤ Z) && decide (Z ≤ 200))) := by show _ = _; unfold smallO; rw [hZ]
        have Hno : Hid (smallO op = false → ANS = false) := fun hf => by
          rw [← unhide HA]
          unfold smallP
          have : l.all smallO = false := by
            rw [List.all_eq_false]
            exact ⟨op, List.mem_of_getElem? hop, by rw [hf]; decide⟩
          rw [this, Bool.and_false]
        have Hyes : Hid (smallO op = true → ∀ (j : Nat) (op : OpP), j < i + 1 → l[j]? = some op → smallO op = true) := fun ht j op' hj hjo => by
          by_cases hji : j = i
          · subst hji
            rw [hop] at hjo
            cases hjo
            exact ht
          · exact unhide Hs j op' (by omega) hjo
        clear hr3 hop hF hZ hKD hAT Hs Hb
        by_cases g1 : Z < 0
        · have y1 : decide (Z < 0) = true := decide_eq_true g1
          have hans := unhide Hno (by rw [unhide Hsm, decide_eq_false (by omega : ¬ 0 ≤ Z)]; rfl)
          subst hans
          clear Hno Hyes Hsm
          go_wp2
          go_ret
          exact ⟨rfl, unhide Hb3⟩
        · have y1 : decide (Z < 0) = false := decide_eq_false g1
          by_cases g2 : 200 < Z
          · have y2 : decide (200 < Z) = true := decide_eq_true g2
            have hans := unhide Hno (by rw [unhide Hsm, decide_eq_false (by omega : ¬ Z ≤ 200), Bool.and_false])
            subst hans
            clear Hno Hyes Hsm
            go_wp2
            go_ret
            exact ⟨rfl, unhide Hb3⟩
          · have y2 : decide (200 < Z) = false := decide_eq_false g2
            have Hs2 := hide (unhide Hyes (by rw [unhide Hsm, decide_eq_true (by omega : 0 ≤ Z), decide_eq_true (by omega : Z ≤ 200)]; rfl))
            clear Hno Hyes Hsm
            go_wp2
            refine ⟨⟨i + 1, by omega, ?_, Hs2, Hb3⟩, ?_⟩
            · simp
            · simp [intOf]; omega
      · obtain rfl : i = n := by omega
        have f1 : decide ((i : Int) < (i : Int)) = false := by simp
        have hans : true = ANS := by
          rw [← unhide HA]
          symm
          unfold smallP
          rw [unhide HN, decide_eq_true (by omega : i ≤ 200), Bool.true_and, List.all_eq_true]
          intro op hop
          obtain ⟨j, hj, e⟩ := List.getElem_of_mem hop
          have := unhide HN
          exact unhide Hs j op (by omega) (by rw [List.getElem?_eq_getElem hj, e])
        subst hans
        clear Hs
        go_wp2
        go_ret
        exact ⟨rfl, unhide Hb⟩
end Go.Proofs.Ytlmikagmcaicoaa
