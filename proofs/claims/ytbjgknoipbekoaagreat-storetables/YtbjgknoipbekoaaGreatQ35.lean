/-
  A plate, and a log on it, behind calls; the walk of the landed store's beginLog.
-/
import Derived.Test.YtbjgknoipbekoaaGreatQ34
namespace Go.Proofs.YtbjgknoipbekoaaGreat
open Go.RowKit
/-- A plate behind calls, since the world w with the sets S, R. -/
structure Run (PAt : Set_ → Set_ → World → Value → PS → Prop) (w : World) (S R : Set_) (w' : World) (p : Value) (S' R' : Set_) (s' : PS) : Prop where
  p : PAt S' R' w' p s'
  s : ∀ k, S' k → S k ∨ w.heap.size ≤ k
  r : ∀ k, R' k → R k ∨ w.heap.size ≤ k
  a : Aside S w w'
/-- And a log on it. -/
structure RunL (PAt : Set_ → Set_ → World → Value → PS → Prop) (LAt : Set_ → Set_ → World → Value → Value → LS → Prop) (w : World) (S R : Set_) (w' : World) (p l : Value) (S' R' S2 R2 : Set_) (s' : PS) (L : LS) : Prop where
  run : Run PAt w S R w' p S' R' s'
  lg : LAt S2 R2 w' l p L
  s2 : ∀ k, S2 k → S k ∨ w.heap.size ≤ k
  r2 : ∀ k, R2 k → w.heap.size ≤ k
  sepP : ∀ k, S2 k → ¬ S' k ∧ ¬ R' k
  sepL : ∀ k, S' k → ¬ R2 k
section
variable {PAt : Set_ → Set_ → World → Value → PS → Prop} {LAt : Set_ → Set_ → World → Value → Value → LS → Prop} (HP : Plate PAt) (HW : Wal PAt LAt)
variable {w w1 w2 : World} {S R S1 R1 S2 R2 : Set_} {p l : Value} {s s1 s2 : PS} {L : LS}
theorem Run.refl (h : PAt S R w p s) : Run PAt w S R w p S R s := ⟨h, fun _ h => Or.inl h, fun _ h => Or.inl h, Aside.refl _ _⟩
include HP in
theorem Run.below (h : Run PAt w S R w1 p S1 R1 s1) (hb : Below w1.heap.size w1 w2) : Run PAt w S R w2 p S1 R1 s1 :=
  ⟨HP.kept h.p (T := none_) (Aside.of_below hb) fun _ hk => hk.elim, h.s, h.r, h.a.trans (T := none_) (Aside.of_below hb) fun _ _ h => h.elim⟩
theorem Run.call (h : Run PAt w S R w1 p S1 R1 s1) {S' R' : Set_} (hp : PAt S' R' w2 p s2) (hS : ∀ k, S' k → S1 k ∨ w1.heap.size ≤ k) (hR : ∀ k, R' k → R1 k ∨ w1.heap.size ≤ k) (ha : Aside S1 w1 w2) : Run PAt w S R w2 p S' R' s2 := by
  have hsz := h.a.size
  refine ⟨hp, fun k hk => ?_, fun k hk => ?_, h.a.trans ha fun i hi hk => ?_⟩
  · rcases hS k hk with h1 | h1
    · exact h.s k h1
    · exact Or.inr (by omega)
  · rcases hR k hk with h1 | h1
    · exact h.r k h1
    · exact Or.inr (by omega)
  · rcases h.s i hk with h1 | h1
    · exact h1
    · omega
include HP in
theorem Run.open_ (h : Run PAt w S R w1 p S1 R1 s1) (hl : LAt S2 R2 w2 l p L) (hn : ∀ k, S2 k ∨ R2 k → w1.heap.size ≤ k) (hb : Below w1.heap.size w1 w2) : RunL PAt LAt w S R w2 p l S1 R1 S2 R2 s1 L := by
  have hsz := h.a.size
  have ho := HP.old h.p
  refine ⟨h.below HP hb, hl, fun k hk => Or.inr (by have := hn k (Or.inl hk); omega), fun k hk => by have := hn k (Or.inr hk); omega, fun k hk => ⟨fun h1 => ?_, fun h1 => ?_⟩, fun k h1 hk => ?_⟩
  · have := ho k (Or.inl h1); have := hn k (Or.inl hk); omega
  · have := ho k (Or.inr h1); have := hn k (Or.inl hk); omega
  · have := ho k (Or.inl h1); have := hn k (Or.inr hk); omega
include HP HW in
theorem RunL.below (h : RunL PAt LAt w S R w1 p l S1 R1 S2 R2 s1 L) (hb : Below w1.heap.size w1 w2) : RunL PAt LAt w S R w2 p l S1 R1 S2 R2 s1 L :=
  ⟨h.run.below HP hb, HW.kept h.lg (T := none_) (Aside.of_below hb) fun _ hk => hk.elim, h.s2, h.r2, h.sepP, h.sepL⟩
include HW in
theorem RunL.call (h : RunL PAt LAt w S R w1 p l S1 R1 S2 R2 s1 L) {S' R' : Set_} (hp : PAt S' R' w2 p s2) (hS : ∀ k, S' k → S1 k ∨ w1.heap.size ≤ k) (hR : ∀ k, R' k → R1 k ∨ w1.heap.size ≤ k) (ha : Aside S1 w1 w2) : RunL PAt LAt w S R w2 p l S' R' S2 R2 s2 L := by
  have ho := HW.old h.lg
  refine ⟨h.run.call hp hS hR ha, HW.kept h.lg ha fun k hk => ⟨fun h2 => (h.sepP k h2).1 hk, h.sepL k hk⟩, h.s2, h.r2, fun k hk => ⟨fun h2 => ?_, fun h2 => ?_⟩, fun k h2 hk => ?_⟩
  · rcases hS k h2 with h3 | h3
    · exact (h.sepP k hk).1 h3
    · have := ho k (Or.inl hk); omega
  · rcases hR k h2 with h3 | h3
    · exact (h.sepP k hk).2 h3
    · have := ho k (Or.inl hk); omega
  · rcases hS k h2 with h3 | h3
    · exact h.sepL k h3 hk
    · have := ho k (Or.inr hk); omega
theorem RunL.append (h : RunL PAt LAt w S R w1 p l S1 R1 S2 R2 s1 L) {S' R' S2' R2' : Set_} {L' : LS} (hp : PAt S' R' w2 p s2) (hl : LAt S2' R2' w2 l p L') (hS : ∀ k, S' k ∨ S2' k → (S1 k ∨ S2 k) ∨ w1.heap.size ≤ k) (hR : ∀ k, R' k → R1 k ∨ w1.heap.size ≤ k) (hR2 : ∀ k, R2' k → R2 k ∨ w1.heap.size ≤ k) (h1 : ∀ k, S2' k → ¬ S' k ∧ ¬ R' k) (h2 : ∀ k, S' k → ¬ R2' k) (ha : Aside (fun k => S1 k ∨ S2 k) w1 w2) : RunL PAt LAt w S R w2 p l S' R' S2' R2' s2 L' := by
  have hsz := h.run.a.size
  have hge : ∀ k, (S1 k ∨ S2 k) ∨ w1.heap.size ≤ k → S k ∨ w.heap.size ≤ k := fun k hk => by
    rcases hk with (hk | hk) | hk
    · exact h.run.s k hk
    · exact h.s2 k hk
    · exact Or.inr (by omega)
  refine ⟨⟨hp, fun k hk => hge k (hS k (Or.inl hk)), fun k hk => ?_, h.run.a.trans ha fun i hi hk => ?_⟩, hl, fun k hk => hge k (hS k (Or.inr hk)), fun k hk => ?_, h1, h2⟩
  · rcases hR k hk with h3 | h3
    · exact h.run.r k h3
    · exact Or.inr (by omega)
  · rcases hge i (Or.inl hk) with h3 | h3
    · exact h3
    · omega
  · rcases hR2 k hk with h3 | h3
    · exact h.r2 k h3
    · omega
theorem safe_res {s : PS} {a : Nat} {b : Bs} (hd : s.down = false) (ha : a < s.safe.length) (hb : b.length = 64) : ((safeR s a b).2 = 0 ∧ (safeR s a b).1.down = false ∧ (safeR s a b).1.loose = [] ∧ (safeR s a b).1.safe.length = s.safe.length) ∨ (safeR s a b).2 = 50 := by
  unfold safeR
  obtain ⟨hw1, hw2⟩ := write_step hd ha hb
  by_cases h0 : s.left = 0
  · rw [(hw1 h0).1, if_neg (by decide)]
    exact Or.inr rfl
  · obtain ⟨e1, e2⟩ := hw2 h0
    rw [e1, if_pos rfl]
    obtain ⟨hs1, hs2⟩ := sync_step (s := writeS s (a : Int) b) (by rw [e2])
    by_cases h1 : (writeS s (a : Int) b).left = 0
    · exact Or.inr (hs1 h1).1
    · obtain ⟨e3, e4⟩ := hs2 h1
      refine Or.inl ⟨e3, by rw [e4], by rw [e4], ?_⟩
      rw [e4, e2]
      show (applyL s.safe (s.loose ++ [(a, b)])).length = _
      rw [apply_len]
theorem write_res {s : PS} {a : Nat} {b : Bs} (hd : s.down = false) (hl : s.loose = []) (ha : a < s.safe.length) (hb : b.length = 64) : (writeE s (a : Int) b = 0 ∨ writeE s (a : Int) b = 50) ∧ (writeS s (a : Int) b).loose.length ≤ 100000 := by
  obtain ⟨hw1, hw2⟩ := write_step hd ha hb
  by_cases h0 : s.left = 0
  · obtain ⟨e1, e2⟩ := hw1 h0
    exact ⟨Or.inr e1, by rw [e2, hl]; simp⟩
  · obtain ⟨e1, e2⟩ := hw2 h0
    exact ⟨Or.inl e1, by rw [e2, hl]; simp⟩
theorem append_res {L : LS} {s : PS} {b : Bs} (h : LogI L s) (hs : L.shut = false) (hb : b.length ≤ 65536) (hr : usedR L.rs + needs b.length ≤ L.size) : (appendE L s b = 0 ∧ (appendP L s b).down = false ∧ (appendP L s b).loose = [] ∧ L.start + L.size ≤ (appendP L s b).safe.length) ∨ appendE L s b = 50 := by
  have hlo := h.ok.left
  by_cases hlf : s.left < 0 ∨ (needs b.length : Int) + 1 ≤ s.left
  · obtain ⟨e1, e2, _, _⟩ := append_ok h hs hb hr hlf
    have h1 := append_same L s b
    have h2 := e2.fit
    rw [h1.1, h1.2.1] at h2
    exact Or.inl ⟨e1, e2.down, e2.loose, h2⟩
  · obtain ⟨k, hk⟩ : ∃ k : Nat, s.left = (k : Int) := ⟨s.left.toNat, by omega⟩
    exact Or.inr (append_cut h hs hb hr hk (by omega) []).1
/-- What a beginning wants of the plate. -/
structure BegS (s : PS) (h g : Nat) : Prop where
  down : s.down = false
  loose : s.loose = []
  h1 : 1 ≤ h
  half : h = (s.safe.length - 2) / 2
  four : 4 ≤ s.safe.length
  g0 : 1 ≤ g
  g1 : g < 2147483648
  li : (clearR s h g).2 = 0 → LogI (openL (clearR s h g).1 (fromG h g) h g) (clearR s h g).1 ∧ (openL (clearR s h g).1 (fromG h g) h g).rs = []
include HP HW in
set_option maxRecDepth 100000 in
set_option maxHeartbeats 4000000 in
theorem sbeginlog_c {h g : Nat} {x : Value} {first : Bs} (hp : PAt S R w p s) (hB : BegS s h g) (hx : BytesAt w x first) (hxs : first ≠ [] → ∀ k, x.ownBlock = some k → ¬ S k) (hfl : first.length ≤ 65536) (hfn : needs first.length ≤ h) :
    Calls Tryz.prog 65 #[p, .int .i64 (g : Int), x] w fun e w' => ∃ v, e = .returned (.tuple #[v, .int .i64 (beginR s h g first).2.1]) ∧ (((beginR s h g first).2.1 = 0 ∧ (∃ a, v = .pointer (some a)) ∧ ∃ S' R' S2 R2, RunL PAt LAt w S R w' p v S' R' S2 R2 (beginR s h g first).1 (beginR s h g first).2.2) ∨ ((beginR s h g first).2.1 = 50 ∧ v = .pointer none ∧ ∃ S' R', Run PAt w S R w' p S' R' (beginR s h g first).1)) := by
  have hfew := (HP.ok hp).few
  have hfr := from_le h g
  have h1 := hB.h1
  have hhalf := hB.half
  have hfit : fromG h g + h ≤ s.safe.length := by omega
  have hcl : clearR s h g = safeR s (fromG h g) zeros := rfl
  have hRp := Run.refl hp
  obtain ⟨pa, epa⟩ := HP.ptr hp
  subst epa
  have HBt : Hid (∀ w', Below w.heap.size w w' → BytesAt w' x first) := fun w' hb => hx.below hb
  have HXo : Hid (∀ k, first ≠ [] → x.ownBlock = some k → ¬ S k ∧ k < w.heap.size) := fun k hne hk => ⟨hxs hne k hk, ValsAt.old hx (by simpa using hne) k hk⟩
  obtain ⟨sx, cx, rfl, _⟩ := bytes_open hx
  obtain ⟨XN, hXN⟩ : ∃ y, first.length = y := ⟨_, rfl⟩
  have HX := hide hx
  rw [hXN] at HX HXo
  -- the first sector of the half
  have Hf : Hid (∀ w', Below w.heap.size w w' → Calls Tryz.prog 86 #[.pointer (some pa), .int .i64 (g : Int)] w' fun e w2 => e = .returned (.int .i64 ((fromG h g : Nat) : Int)) ∧ Below w'.heap.size w' w2) := fun w' hb => sfirst_c HP ((hRp.below HP hb).p) hB.four g (by have := hB.g1; omega) hhalf
  have Hs : Hid (∀ w' y, Below w.heap.size w w' → OwnB w' w.heap.size y zeros → Calls Tryz.prog 85 #[.pointer (some pa), .int .i64 ((fromG h g : Nat) : Int), y] w' fun e w2 => e = .returned (.int .i64 (clearR s h g).2) ∧ ∃ S1 R1, Run PAt w S R w2 (.pointer (some pa)) S1 R1 (clearR s h g).1) := fun w' y hb hy => by
    have hr := hRp.below HP hb
    obtain ⟨e1, e2⟩ := write_res (a := fromG h g) hB.down hB.loose (by omega) zeros_len
    refine (swsafe_c HP (fromG h g) y zeros hr.p hy.bytes (fun _ k hk hS => ?_) zeros_len (by rw [hB.loose]; simp) (by omega) e1 e2).mono ?_
    · have := (World.ownsRow.lt hy k hk).1
      have := HP.old hp k (Or.inl hS)
      omega
    · rintro e w2 ⟨rfl, S1, R1, q1, q2, q3, q4⟩
      exact ⟨by rw [hcl], S1, R1, by rw [hcl]; exact hr.call q1 q2 q3 q4⟩
  have hz : ∀ w', ∃ W, (Instr.makeSlice 23 (.int .i64 64) (.int .i64 64)).run Tryz.prog w' = .ok (.slice (some ⟨w'.heap.size, 0, none⟩) 64 64) W ∧ OwnB W w'.heap.size (.slice (some ⟨w'.heap.size, 0, none⟩) 64 64) zeros ∧ Below w'.heap.size w' W := fun w' => made_zeros w' 64 (by omega)
  have HC := safe_res (a := fromG h g) (b := zeros) hB.down (by omega) zeros_len
  rw [← hcl] at HC
  have HLi := hide hB.li
  have hg0 := hB.g0
  have hg1 := hB.g1
  have h4 := hB.four
  have HBR : Hid (beginR s h g first = beginR s h g first) := rfl
  obtain ⟨FR, hFR⟩ : ∃ y, fromG h g = y := ⟨_, rfl⟩
  rw [hFR] at Hf Hs
  have bFR : FR ≤ 100000 := by omega
  have HFRL : Hid (2 ≤ FR ∧ FR + h ≤ s.safe.length) := by show _ ∧ _; omega
  rcases HC with ⟨c0, c1, c2, c3⟩ | c50
  · -- cleared
    obtain ⟨hli, hrs⟩ := unhide HLi c0
    rw [c0] at Hs
    obtain ⟨s1, hs1⟩ : ∃ y, (clearR s h g).1 = y := ⟨_, rfl⟩
    rw [hs1, hFR] at hli hrs
    rw [hs1] at Hs c1 c2 c3
    have hsz : (openL s1 FR h g).size = h := rfl
    have hst : (openL s1 FR h g).start = FR := rfl
    have HO : Hid (∀ w' S1 R1, Run PAt w S R w' (.pointer (some pa)) S1 R1 s1 → Calls Tryz.prog 66 #[.pointer (some pa), .int .i64 (g : Int)] w' fun e w2 => ∃ l, e = .returned (.tuple #[.pointer (some l), .int .i64 0]) ∧ ∃ S2 R2, RunL PAt LAt w S R w2 (.pointer (some pa)) (.pointer (some l)) S1 R1 S2 R2 s1 (openL s1 FR h g)) := fun w' S1 R1 hr => by
      refine (sopenlog_c HP HW hr.p (by omega) g hg0 hg1 (h := h) (by rw [c3]; exact hhalf) c1 (by rw [c2]; simp)).mono ?_
      rintro e w2 ⟨l, rfl, S2, R2, q1, q2, q3⟩
      rw [hFR] at q1
      obtain ⟨la, rfl⟩ := HW.ptr q1
      exact ⟨la, rfl, S2, R2, hr.open_ HP q1 q2 q3⟩
    obtain ⟨L, hL⟩ : ∃ y, openL s1 FR h g = y := ⟨_, rfl⟩
    rw [hL] at HO hli hrs hsz hst
    have hsh : L.shut = false := by rw [← hL]; rfl
    have hres := append_res (b := first) hli hsh hfl (by rw [hrs, hsz]; show 0 + _ ≤ _; omega)
    have HAp : Hid (∀ w' l S1 R1 S2 R2, RunL PAt LAt w S R w' (.pointer (some pa)) (.pointer (some l)) S1 R1 S2 R2 s1 L → Calls Tryz.prog 50 #[.pointer (some l), .slice sx XN cx] w' fun e w2 => e = .returned (.int .i64 (appendE L s1 first)) ∧ ∃ S1' R1' S2' R2', RunL PAt LAt w S R w2 (.pointer (some pa)) (.pointer (some l)) S1' R1' S2' R2' (appendP L s1 first) (appendL L s1 first)) := fun w' l S1 R1 S2 R2 hr => by
      have hxb : BytesAt w' (.slice sx XN cx) first := (unhide HX).beside hr.run.a fun hne k hk => (unhide HXo k hne hk).1
      refine (HW.append (.slice sx XN cx) first hr.run.p hr.lg hr.sepP hr.sepL hxb (fun hne k hk => ⟨fun h1 => ?_, fun h1 => ?_⟩) (by omega) fun _ => hli).mono ?_
      · rcases hr.run.s k h1 with h2 | h2
        · exact (unhide HXo k hne hk).1 h2
        · have := (unhide HXo k hne hk).2; omega
      · rcases hr.s2 k h1 with h2 | h2
        · exact (unhide HXo k hne hk).1 h2
        · have := (unhide HXo k hne hk).2; omega
      · rintro e w2 ⟨rfl, S1', R1', S2', R2', q1, q2, q3, q4, q5, q6, q7, q8⟩
        exact ⟨rfl, S1', R1', S2', R2', hr.append q1 q2 q3 q4 q5 q6 q7 q8⟩
    rcases hres with ⟨a0, a1, a2, a3⟩ | a50
    · -- appended
      rw [a0] at HAp
      obtain ⟨s2, hs2⟩ : ∃ y, appendP L s1 first = y := ⟨_, rfl⟩
      obtain ⟨L2, hL2⟩ : ∃ y, appendL L s1 first = y := ⟨_, rfl⟩
      rw [hs2, hL2] at HAp
      rw [hs2] at a1 a2 a3
      have hbr : beginR s h g first = ((markR s2 g).1, (markR s2 g).2, L2) := by
        unfold beginR
        rw [if_pos c0, hFR, hs1, hL, if_pos a0, hs2, hL2]
      have hmk : markR s2 g = safeR s2 (g % 2) (markB g) := rfl
      have hm := safe_res (a := g % 2) (b := markB g) a1 (by have := unhide HFRL; omega) (mark_len g)
      rw [← hmk] at hm
      have HM : Hid (∀ w' l y S1 R1 S2 R2, RunL PAt LAt w S R w' (.pointer (some pa)) (.pointer (some l)) S1 R1 S2 R2 s2 L2 → Row w' w' (.slice none 0 0) [] → ∀ w3, Row w' w3 y (markB g) → Calls Tryz.prog 85 #[.pointer (some pa), .int .i64 ((g % 2 : Nat) : Int), y] w3 fun e w2 => e = .returned (.int .i64 (markR s2 g).2) ∧ ∃ S1' R1', RunL PAt LAt w S R w2 (.pointer (some pa)) (.pointer (some l)) S1' R1' S2 R2 (markR s2 g).1 L2) := fun w' l y S1 R1 S2 R2 hr _ w3 hy => by
        have hr3 := hr.below HP HW hy.b
        obtain ⟨e1, e2⟩ := write_res (a := g % 2) a1 a2 (by have := unhide HFRL; omega) (mark_len g)
        refine (swsafe_c HP (g % 2) y (markB g) hr3.run.p hy.bytes (fun _ k hk hS => ?_) (mark_len g) (by rw [a2]; simp) (by omega) e1 e2).mono ?_
        · have := (World.ownsRow.lt hy.own k hk).1
          have := HP.old hr.run.p k (Or.inl hS)
          omega
        · rintro e w2 ⟨rfl, S1', R1', q1, q2, q3, q4⟩
          exact ⟨by rw [hmk], S1', R1', by rw [hmk]; exact hr3.call HW q1 q2 q3 q4⟩
      rw [hXN, hbr]
      simp only
      obtain ⟨q, hq⟩ : ∃ q, g % 2 = q := ⟨_, rfl⟩
      have Hpl := hide (fun w' => splace_c w' g (by omega))
      have Hmo := hide (fun w' => smark_c w' g (by omega))
      rw [hq] at HM Hpl
      have hqb : q < 2 := by omega
      obtain ⟨ms, hms⟩ : ∃ y, markR s2 g = y := ⟨_, rfl⟩
      rw [hms] at HM hm ⊢
      rcases hm with ⟨m0, _, _, _⟩ | m50
      · rw [m0] at HM ⊢
        clear hp hx hxs hB hcl hRp HBt HXo HX hfew hfr h1 hhalf hfit hFR c0 c1 c2 c3 hli hrs hs1 hsz hst hL hsh a0 a1 a2 a3 hs2 hL2 hbr hmk hq hms HLi hXN hfl hfn h4 HBR HFRL
        go_enter Tryz.func65, Tryz.ntmps65
        go_upto_region 1 with fail
        refine wp_region_held_drew (S := fun _ => True) (by kernel_rfl) (trivial) (fun hHeld => ?_)
        refine wpAnyH_take (i := 0) (oi := { dst := some 13, op := Op.move (Operand.tmp 0), type := 26, pos := "generation.go:47", after := #[], guard := none }) (v := ?_) rfl (by kernel_rfl) (by kernel_rfl) (by kernel_rfl) (fun _ _ _ h => h) (Or.inl ⟨by rfl, ?a1⟩) (by assumption) ?_
        case a1 => (intro w_ hSw; (try dsimp only at hSw); go_simp; try with_reducible rfl)
        simp only [Act.put, List.setIfInBounds_toArray, List.set_cons_zero, List.set_cons_succ]
        refine wpAnyH_take (i := 1) (oi := { dst := some 14, op := Op.move (Operand.tmp 0), type := 26, pos := "generation.go:47", after := #[], guard := none }) (v := ?_) rfl (by kernel_rfl) (by kernel_rfl) (by kernel_rfl) (fun _ _ _ h => h) (Or.inl ⟨by rfl, ?a2⟩) (by assumption) ?_
        case a2 => (intro w_ hSw; (try dsimp only at hSw); go_simp; try with_reducible rfl)
        simp only [Act.put, List.setIfInBounds_toArray, List.set_cons_zero, List.set_cons_succ]
        refine wpAnyH_take (i := 2) (oi := { dst := some 15, op := Op.move (Operand.tmp 1), type := 3, pos := "generation.go:47", after := #[], guard := none }) (v := ?_) rfl (by kernel_rfl) (by kernel_rfl) (by kernel_rfl) (fun _ _ _ h => h) (Or.inl ⟨by rfl, ?a3⟩) (by assumption) ?_
        case a3 => (intro w_ hSw; (try dsimp only at hSw); go_simp; try with_reducible rfl)
        simp only [Act.put, List.setIfInBounds_toArray, List.set_cons_zero, List.set_cons_succ]
        refine wpAnyH_ready (rs := [3, 4]) (by kernel_rfl) (by simp) ?_
        refine (AllReadyH.cons (o := { dst := some 16, op := Op.call { callee := Callee.value (Operand.func 86), args := #[Operand.tmp 14, Operand.tmp 15], argTypes := #[26, 3] }, type := 3, pos := "generation.go:47", after := #[{ on := 1, ground := Ground.data }, { on := 2, ground := Ground.data }], guard := none }) rfl (fun K_ hK_ => ?_) (AllReadyH.cons (o := { dst := some 17, op := Op.makeSlice 23 (Operand.const (Value.int IntKind.i64 64)) (Operand.const (Value.int IntKind.i64 64)), type := 23, pos := "generation.go:47", after := #[], guard := none }) rfl (fun K_ hK_ => ?_) AllReadyH.nil))
        go_simp
        go_at_call 86
        refine (unhide Hf _ ((Below.refl w.heap.size w).drew)).mono ?_
        rintro e WA ⟨rfl, hbA⟩
        have HBA := hide (((Below.refl w.heap.size w).drew).trans (hbA.mono ((Below.refl w.heap.size w).drew).size))
        have HBA2 := hide hbA
        clear hbA
        go_simp
        refine hK_.out _ _ (trivial) (fun hHeld => ?_)
        clear hK_ K_
        (try simp only [Act.put, List.setIfInBounds_toArray, List.set_cons_zero, List.set_cons_succ])
        refine wpAnyH_ready (rs := [4]) (by kernel_rfl) (by simp) ?_
        refine AllReadyH.cons (o := { dst := some 17, op := Op.makeSlice 23 (Operand.const (Value.int IntKind.i64 64)) (Operand.const (Value.int IntKind.i64 64)), type := 23, pos := "generation.go:47", after := #[], guard := none }) rfl (fun K_ hK_ => ?_) AllReadyH.nil
        obtain ⟨WB, hmk, hoB, hbB⟩ := hz WA
        go_simp
        have HBB := hide ((unhide HBA).trans (hbB.mono (unhide HBA).size))
        have HOB : Hid (OwnB WB w.heap.size (.slice (some ⟨WA.heap.size, 0, none⟩) 64 64) zeros) := OwnV.mono hoB (unhide HBA).size
        clear hmk hoB hbB
        refine hK_.out _ _ (trivial) (fun hHeld => ?_)
        clear hK_ K_
        (try simp only [Act.put, List.setIfInBounds_toArray, List.set_cons_zero, List.set_cons_succ])
        have HOx := hide (unhide HOB)
        have HBx := hide (unhide HBB)
        clear HOB HBB HBA HBA2
        refine wpAnyH_ready (rs := [5]) (by kernel_rfl) (by simp) ?_
        refine AllReadyH.cons (o := { dst := some 18, op := Op.call { callee := Callee.value (Operand.func 85), args := #[Operand.tmp 13, Operand.tmp 16, Operand.tmp 17], argTypes := #[26, 3, 23] }, type := 29, pos := "generation.go:47", after := #[{ on := 0, ground := Ground.data }, { on := 3, ground := Ground.data }, { on := 4, ground := Ground.data }, { on := 3, ground := Ground.chain }], guard := none }) rfl (fun K_ hK_ => ?_) AllReadyH.nil
        go_simp
        go_at_call 85
        refine (unhide Hs _ _ (unhide HBx) (unhide HOx)).mono ?_
        rintro e W2 ⟨rfl, S2, R2, hr2⟩
        have HR2 := hide hr2
        clear hr2 HOx HBx
        go_simp
        refine hK_.out _ _ (trivial) (fun hHeld => ?_)
        clear hK_ K_
        (try simp only [Act.put, List.setIfInBounds_toArray, List.set_cons_zero, List.set_cons_succ])
        refine wpAnyH_take (i := 6) (oi := { dst := some 8, op := Op.assign (Operand.tmp 18), type := 29, pos := "generation.go:47", after := #[{ on := 5, ground := Ground.data }, { on := 5, ground := Ground.chain }, { on := 0, ground := Ground.phase }, { on := 1, ground := Ground.phase }, { on := 2, ground := Ground.phase }, { on := 3, ground := Ground.phase }, { on := 4, ground := Ground.phase }, { on := 5, ground := Ground.phase }], guard := none }) (v := ?_) rfl (by kernel_rfl) (by kernel_rfl) (by kernel_rfl) (fun _ _ _ h => h) (Or.inl ⟨by rfl, ?a4⟩) (by assumption) ?_
        case a4 => (intro w_ hSw; (try dsimp only at hSw); go_simp; try with_reducible rfl)
        simp only [Act.put, List.setIfInBounds_toArray, List.set_cons_zero, List.set_cons_succ]
        refine wpAnyH_done (by kernel_rfl) ?_ _
        rotate_left
        obtain ⟨WB, hmk, hoB, hbB⟩ := hz w.drew
        go_simp
        have HBB := hide (((Below.refl w.heap.size w).drew).trans (hbB.mono ((Below.refl w.heap.size w).drew).size))
        have HOB : Hid (OwnB WB w.heap.size (.slice (some ⟨w.drew.heap.size, 0, none⟩) 64 64) zeros) := OwnV.mono hoB ((Below.refl w.heap.size w).drew).size
        clear hmk hoB hbB
        refine hK_.out _ _ (trivial) (fun hHeld => ?_)
        clear hK_ K_
        (try simp only [Act.put, List.setIfInBounds_toArray, List.set_cons_zero, List.set_cons_succ])
        refine wpAnyH_ready (rs := [3]) (by kernel_rfl) (by simp) ?_
        refine AllReadyH.cons (o := { dst := some 16, op := Op.call { callee := Callee.value (Operand.func 86), args := #[Operand.tmp 14, Operand.tmp 15], argTypes := #[26, 3] }, type := 3, pos := "generation.go:47", after := #[{ on := 1, ground := Ground.data }, { on := 2, ground := Ground.data }], guard := none }) rfl (fun K_ hK_ => ?_) AllReadyH.nil
        have HOx0 := hide (unhide HOB)
        go_simp
        go_at_call 86
        refine (unhide Hf _ (unhide HBB)).mono ?_
        rintro e WA ⟨rfl, hbA⟩
        have HBA := hide ((unhide HBB).trans (hbA.mono (unhide HBB).size))
        have HBA2 := hide hbA
        clear hbA
        go_simp
        refine hK_.out _ _ (trivial) (fun hHeld => ?_)
        clear hK_ K_
        (try simp only [Act.put, List.setIfInBounds_toArray, List.set_cons_zero, List.set_cons_succ])
        have HOx := hide (OwnV.below (unhide HOx0) (unhide HBA2))
        have HBx := hide (unhide HBA)
        clear HOB HBB HBA HBA2 HOx0
        refine wpAnyH_ready (rs := [5]) (by kernel_rfl) (by simp) ?_
        refine AllReadyH.cons (o := { dst := some 18, op := Op.call { callee := Callee.value (Operand.func 85), args := #[Operand.tmp 13, Operand.tmp 16, Operand.tmp 17], argTypes := #[26, 3, 23] }, type := 29, pos := "generation.go:47", after := #[{ on := 0, ground := Ground.data }, { on := 3, ground := Ground.data }, { on := 4, ground := Ground.data }, { on := 3, ground := Ground.chain }], guard := none }) rfl (fun K_ hK_ => ?_) AllReadyH.nil
        go_simp
        go_at_call 85
        refine (unhide Hs _ _ (unhide HBx) (unhide HOx)).mono ?_
        rintro e W2 ⟨rfl, S2, R2, hr2⟩
        have HR2 := hide hr2
        clear hr2 HOx HBx
        go_simp
        refine hK_.out _ _ (trivial) (fun hHeld => ?_)
        clear hK_ K_
        (try simp only [Act.put, List.setIfInBounds_toArray, List.set_cons_zero, List.set_cons_succ])
        refine wpAnyH_take (i := 6) (oi := { dst := some 8, op := Op.assign (Operand.tmp 18), type := 29, pos := "generation.go:47", after := #[{ on := 5, ground := Ground.data }, { on := 5, ground := Ground.chain }, { on := 0, ground := Ground.phase }, { on := 1, ground := Ground.phase }, { on := 2, ground := Ground.phase }, { on := 3, ground := Ground.phase }, { on := 4, ground := Ground.phase }, { on := 5, ground := Ground.phase }], guard := none }) (v := ?_) rfl (by kernel_rfl) (by kernel_rfl) (by kernel_rfl) (fun _ _ _ h => h) (Or.inl ⟨by rfl, ?a5⟩) (by assumption) ?_
        case a5 => (intro w_ hSw; (try dsimp only at hSw); go_simp; try with_reducible rfl)
        simp only [Act.put, List.setIfInBounds_toArray, List.set_cons_zero, List.set_cons_succ]
        refine wpAnyH_done (by kernel_rfl) ?_ _
        all_goals
          go_wp2_with (first
            | (go_at_call 66; refine (unhide HO _ _ _ (unhide HR2)).mono ?_; rintro e w3 ⟨l3, rfl, S3, R3, hr3⟩; have HR3 := hide hr3; clear hr3)
            | (go_at_call 50; refine (unhide HAp _ _ _ _ _ _ (unhide HR3)).mono ?_; rintro e w4 ⟨rfl, S4, R4, S5, R5, hr4⟩; have HR4 := hide hr4; clear hr4)
            | (go_at_call 81; refine (unhide Hpl _).mono ?_; rintro e w5 ⟨rfl, hw⟩; have hw' := hw.symm; subst hw'; clear hw)
            | (go_at_call 83; refine (unhide Hmo _).mono ?_; rintro e w6 ⟨v6, rfl, hr6⟩; have HR6 := hide hr6; obtain ⟨s6, c6, e6⟩ := hr6.own.form; subst e6; clear hr6)
            | (go_at_call 85; refine (unhide HM _ _ _ _ _ _ _ (unhide HR4) ⟨ownb_nil _ _, Below.refl _ _⟩ _ (unhide HR6)).mono ?_; rintro e w7 ⟨rfl, S7, R7, hr7⟩; have HR7 := hide hr7; clear hr7))
          go_ret2
          exact ⟨_, rfl, Or.inl ⟨trivial, ⟨_, rfl⟩, _, _, _, _, unhide HR7⟩⟩
      · rw [m50] at HM ⊢
        clear hp hx hxs hB hcl hRp HBt HXo HX hfew hfr h1 hhalf hfit hFR c0 c1 c2 c3 hli hrs hs1 hsz hst hL hsh a0 a1 a2 a3 hs2 hL2 hbr hmk hq hms HLi hXN hfl hfn h4 HBR HFRL
        go_enter Tryz.func65, Tryz.ntmps65
        go_upto_region 1 with fail
        refine wp_region_held_drew (S := fun _ => True) (by kernel_rfl) (trivial) (fun hHeld => ?_)
        refine wpAnyH_take (i := 0) (oi := { dst := some 13, op := Op.move (Operand.tmp 0), type := 26, pos := "generation.go:47", after := #[], guard := none }) (v := ?_) rfl (by kernel_rfl) (by kernel_rfl) (by kernel_rfl) (fun _ _ _ h => h) (Or.inl ⟨by rfl, ?b1⟩) (by assumption) ?_
        case b1 => (intro w_ hSw; (try dsimp only at hSw); go_simp; try with_reducible rfl)
        simp only [Act.put, List.setIfInBounds_toArray, List.set_cons_zero, List.set_cons_succ]
        refine wpAnyH_take (i := 1) (oi := { dst := some 14, op := Op.move (Operand.tmp 0), type := 26, pos := "generation.go:47", after := #[], guard := none }) (v := ?_) rfl (by kernel_rfl) (by kernel_rfl) (by kernel_rfl) (fun _ _ _ h => h) (Or.inl ⟨by rfl, ?b2⟩) (by assumption) ?_
        case b2 => (intro w_ hSw; (try dsimp only at hSw); go_simp; try with_reducible rfl)
        simp only [Act.put, List.setIfInBounds_toArray, List.set_cons_zero, List.set_cons_succ]
        refine wpAnyH_take (i := 2) (oi := { dst := some 15, op := Op.move (Operand.tmp 1), type := 3, pos := "generation.go:47", after := #[], guard := none }) (v := ?_) rfl (by kernel_rfl) (by kernel_rfl) (by kernel_rfl) (fun _ _ _ h => h) (Or.inl ⟨by rfl, ?b3⟩) (by assumption) ?_
        case b3 => (intro w_ hSw; (try dsimp only at hSw); go_simp; try with_reducible rfl)
        simp only [Act.put, List.setIfInBounds_toArray, List.set_cons_zero, List.set_cons_succ]
        refine wpAnyH_ready (rs := [3, 4]) (by kernel_rfl) (by simp) ?_
        refine (AllReadyH.cons (o := { dst := some 16, op := Op.call { callee := Callee.value (Operand.func 86), args := #[Operand.tmp 14, Operand.tmp 15], argTypes := #[26, 3] }, type := 3, pos := "generation.go:47", after := #[{ on := 1, ground := Ground.data }, { on := 2, ground := Ground.data }], guard := none }) rfl (fun K_ hK_ => ?_) (AllReadyH.cons (o := { dst := some 17, op := Op.makeSlice 23 (Operand.const (Value.int IntKind.i64 64)) (Operand.const (Value.int IntKind.i64 64)), type := 23, pos := "generation.go:47", after := #[], guard := none }) rfl (fun K_ hK_ => ?_) AllReadyH.nil))
        go_simp
        go_at_call 86
        refine (unhide Hf _ ((Below.refl w.heap.size w).drew)).mono ?_
        rintro e WA ⟨rfl, hbA⟩
        have HBA := hide (((Below.refl w.heap.size w).drew).trans (hbA.mono ((Below.refl w.heap.size w).drew).size))
        have HBA2 := hide hbA
        clear hbA
        go_simp
        refine hK_.out _ _ (trivial) (fun hHeld => ?_)
        clear hK_ K_
        (try simp only [Act.put, List.setIfInBounds_toArray, List.set_cons_zero, List.set_cons_succ])
        refine wpAnyH_ready (rs := [4]) (by kernel_rfl) (by simp) ?_
        refine AllReadyH.cons (o := { dst := some 17, op := Op.makeSlice 23 (Operand.const (Value.int IntKind.i64 64)) (Operand.const (Value.int IntKind.i64 64)), type := 23, pos := "generation.go:47", after := #[], guard := none }) rfl (fun K_ hK_ => ?_) AllReadyH.nil
        obtain ⟨WB, hmk, hoB, hbB⟩ := hz WA
        go_simp
        have HBB := hide ((unhide HBA).trans (hbB.mono (unhide HBA).size))
        have HOB : Hid (OwnB WB w.heap.size (.slice (some ⟨WA.heap.size, 0, none⟩) 64 64) zeros) := OwnV.mono hoB (unhide HBA).size
        clear hmk hoB hbB
        refine hK_.out _ _ (trivial) (fun hHeld => ?_)
        clear hK_ K_
        (try simp only [Act.put, List.setIfInBounds_toArray, List.set_cons_zero, List.set_cons_succ])
        have HOx := hide (unhide HOB)
        have HBx := hide (unhide HBB)
        clear HOB HBB HBA HBA2
        refine wpAnyH_ready (rs := [5]) (by kernel_rfl) (by simp) ?_
        refine AllReadyH.cons (o := { dst := some 18, op := Op.call { callee := Callee.value (Operand.func 85), args := #[Operand.tmp 13, Operand.tmp 16, Operand.tmp 17], argTypes := #[26, 3, 23] }, type := 29, pos := "generation.go:47", after := #[{ on := 0, ground := Ground.data }, { on := 3, ground := Ground.data }, { on := 4, ground := Ground.data }, { on := 3, ground := Ground.chain }], guard := none }) rfl (fun K_ hK_ => ?_) AllReadyH.nil
        go_simp
        go_at_call 85
        refine (unhide Hs _ _ (unhide HBx) (unhide HOx)).mono ?_
        rintro e W2 ⟨rfl, S2, R2, hr2⟩
        have HR2 := hide hr2
        clear hr2 HOx HBx
        go_simp
        refine hK_.out _ _ (trivial) (fun hHeld => ?_)
        clear hK_ K_
        (try simp only [Act.put, List.setIfInBounds_toArray, List.set_cons_zero, List.set_cons_succ])
        refine wpAnyH_take (i := 6) (oi := { dst := some 8, op := Op.assign (Operand.tmp 18), type := 29, pos := "generation.go:47", after := #[{ on := 5, ground := Ground.data }, { on := 5, ground := Ground.chain }, { on := 0, ground := Ground.phase }, { on := 1, ground := Ground.phase }, { on := 2, ground := Ground.phase }, { on := 3, ground := Ground.phase }, { on := 4, ground := Ground.phase }, { on := 5, ground := Ground.phase }], guard := none }) (v := ?_) rfl (by kernel_rfl) (by kernel_rfl) (by kernel_rfl) (fun _ _ _ h => h) (Or.inl ⟨by rfl, ?b4⟩) (by assumption) ?_
        case b4 => (intro w_ hSw; (try dsimp only at hSw); go_simp; try with_reducible rfl)
        simp only [Act.put, List.setIfInBounds_toArray, List.set_cons_zero, List.set_cons_succ]
        refine wpAnyH_done (by kernel_rfl) ?_ _
        rotate_left
        obtain ⟨WB, hmk, hoB, hbB⟩ := hz w.drew
        go_simp
        have HBB := hide (((Below.refl w.heap.size w).drew).trans (hbB.mono ((Below.refl w.heap.size w).drew).size))
        have HOB : Hid (OwnB WB w.heap.size (.slice (some ⟨w.drew.heap.size, 0, none⟩) 64 64) zeros) := OwnV.mono hoB ((Below.refl w.heap.size w).drew).size
        clear hmk hoB hbB
        refine hK_.out _ _ (trivial) (fun hHeld => ?_)
        clear hK_ K_
        (try simp only [Act.put, List.setIfInBounds_toArray, List.set_cons_zero, List.set_cons_succ])
        refine wpAnyH_ready (rs := [3]) (by kernel_rfl) (by simp) ?_
        refine AllReadyH.cons (o := { dst := some 16, op := Op.call { callee := Callee.value (Operand.func 86), args := #[Operand.tmp 14, Operand.tmp 15], argTypes := #[26, 3] }, type := 3, pos := "generation.go:47", after := #[{ on := 1, ground := Ground.data }, { on := 2, ground := Ground.data }], guard := none }) rfl (fun K_ hK_ => ?_) AllReadyH.nil
        have HOx0 := hide (unhide HOB)
        go_simp
        go_at_call 86
        refine (unhide Hf _ (unhide HBB)).mono ?_
        rintro e WA ⟨rfl, hbA⟩
        have HBA := hide ((unhide HBB).trans (hbA.mono (unhide HBB).size))
        have HBA2 := hide hbA
        clear hbA
        go_simp
        refine hK_.out _ _ (trivial) (fun hHeld => ?_)
        clear hK_ K_
        (try simp only [Act.put, List.setIfInBounds_toArray, List.set_cons_zero, List.set_cons_succ])
        have HOx := hide (OwnV.below (unhide HOx0) (unhide HBA2))
        have HBx := hide (unhide HBA)
        clear HOB HBB HBA HBA2 HOx0
        refine wpAnyH_ready (rs := [5]) (by kernel_rfl) (by simp) ?_
        refine AllReadyH.cons (o := { dst := some 18, op := Op.call { callee := Callee.value (Operand.func 85), args := #[Operand.tmp 13, Operand.tmp 16, Operand.tmp 17], argTypes := #[26, 3, 23] }, type := 29, pos := "generation.go:47", after := #[{ on := 0, ground := Ground.data }, { on := 3, ground := Ground.data }, { on := 4, ground := Ground.data }, { on := 3, ground := Ground.chain }], guard := none }) rfl (fun K_ hK_ => ?_) AllReadyH.nil
        go_simp
        go_at_call 85
        refine (unhide Hs _ _ (unhide HBx) (unhide HOx)).mono ?_
        rintro e W2 ⟨rfl, S2, R2, hr2⟩
        have HR2 := hide hr2
        clear hr2 HOx HBx
        go_simp
        refine hK_.out _ _ (trivial) (fun hHeld => ?_)
        clear hK_ K_
        (try simp only [Act.put, List.setIfInBounds_toArray, List.set_cons_zero, List.set_cons_succ])
        refine wpAnyH_take (i := 6) (oi := { dst := some 8, op := Op.assign (Operand.tmp 18), type := 29, pos := "generation.go:47", after := #[{ on := 5, ground := Ground.data }, { on := 5, ground := Ground.chain }, { on := 0, ground := Ground.phase }, { on := 1, ground := Ground.phase }, { on := 2, ground := Ground.phase }, { on := 3, ground := Ground.phase }, { on := 4, ground := Ground.phase }, { on := 5, ground := Ground.phase }], guard := none }) (v := ?_) rfl (by kernel_rfl) (by kernel_rfl) (by kernel_rfl) (fun _ _ _ h => h) (Or.inl ⟨by rfl, ?b5⟩) (by assumption) ?_
        case b5 => (intro w_ hSw; (try dsimp only at hSw); go_simp; try with_reducible rfl)
        simp only [Act.put, List.setIfInBounds_toArray, List.set_cons_zero, List.set_cons_succ]
        refine wpAnyH_done (by kernel_rfl) ?_ _
        all_goals
          go_wp2_with (first
            | (go_at_call 66; refine (unhide HO _ _ _ (unhide HR2)).mono ?_; rintro e w3 ⟨l3, rfl, S3, R3, hr3⟩; have HR3 := hide hr3; clear hr3)
            | (go_at_call 50; refine (unhide HAp _ _ _ _ _ _ (unhide HR3)).mono ?_; rintro e w4 ⟨rfl, S4, R4, S5, R5, hr4⟩; have HR4 := hide hr4; clear hr4)
            | (go_at_call 81; refine (unhide Hpl _).mono ?_; rintro e w5 ⟨rfl, hw⟩; have hw' := hw.symm; subst hw'; clear hw)
            | (go_at_call 83; refine (unhide Hmo _).mono ?_; rintro e w6 ⟨v6, rfl, hr6⟩; have HR6 := hide hr6; obtain ⟨s6, c6, e6⟩ := hr6.own.form; subst e6; clear hr6)
            | (go_at_call 85; refine (unhide HM _ _ _ _ _ _ _ (unhide HR4) ⟨ownb_nil _ _, Below.refl _ _⟩ _ (unhide HR6)).mono ?_; rintro e w7 ⟨rfl, S7, R7, hr7⟩; have HR7 := hide hr7; clear hr7))
          go_ret2
          exact ⟨_, rfl, Or.inr ⟨trivial, rfl, _, _, (unhide HR7).run⟩⟩
    · -- the append was cut off
      rw [a50] at HAp
      obtain ⟨s2, hs2⟩ : ∃ y, appendP L s1 first = y := ⟨_, rfl⟩
      obtain ⟨L2, hL2⟩ : ∃ y, appendL L s1 first = y := ⟨_, rfl⟩
      rw [hs2, hL2] at HAp
      have hbr : beginR s h g first = (s2, 50, L2) := by
        unfold beginR
        rw [if_pos c0, hFR, hs1, hL, if_neg (by rw [a50]; decide), hs2, hL2, a50]
      rw [hXN, hbr]
      simp only
      clear hp hx hxs hB hcl hRp HBt HXo HX hfew hfr h1 hhalf hfit hFR c0 c1 c2 c3 hli hrs hs1 hsz hst hL hsh a50 hs2 hL2 hbr HLi hXN hfl hfn h4 HBR HFRL
      go_enter Tryz.func65, Tryz.ntmps65
      go_upto_region 1 with fail
      refine wp_region_held_drew (S := fun _ => True) (by kernel_rfl) (trivial) (fun hHeld => ?_)
      refine wpAnyH_take (i := 0) (oi := { dst := some 13, op := Op.move (Operand.tmp 0), type := 26, pos := "generation.go:47", after := #[], guard := none }) (v := ?_) rfl (by kernel_rfl) (by kernel_rfl) (by kernel_rfl) (fun _ _ _ h => h) (Or.inl ⟨by rfl, ?c1⟩) (by assumption) ?_
      case c1 => (intro w_ hSw; (try dsimp only at hSw); go_simp; try with_reducible rfl)
      simp only [Act.put, List.setIfInBounds_toArray, List.set_cons_zero, List.set_cons_succ]
      refine wpAnyH_take (i := 1) (oi := { dst := some 14, op := Op.move (Operand.tmp 0), type := 26, pos := "generation.go:47", after := #[], guard := none }) (v := ?_) rfl (by kernel_rfl) (by kernel_rfl) (by kernel_rfl) (fun _ _ _ h => h) (Or.inl ⟨by rfl, ?c2⟩) (by assumption) ?_
      case c2 => (intro w_ hSw; (try dsimp only at hSw); go_simp; try with_reducible rfl)
      simp only [Act.put, List.setIfInBounds_toArray, List.set_cons_zero, List.set_cons_succ]
      refine wpAnyH_take (i := 2) (oi := { dst := some 15, op := Op.move (Operand.tmp 1), type := 3, pos := "generation.go:47", after := #[], guard := none }) (v := ?_) rfl (by kernel_rfl) (by kernel_rfl) (by kernel_rfl) (fun _ _ _ h => h) (Or.inl ⟨by rfl, ?c3⟩) (by assumption) ?_
      case c3 => (intro w_ hSw; (try dsimp only at hSw); go_simp; try with_reducible rfl)
      simp only [Act.put, List.setIfInBounds_toArray, List.set_cons_zero, List.set_cons_succ]
      refine wpAnyH_ready (rs := [3, 4]) (by kernel_rfl) (by simp) ?_
      refine (AllReadyH.cons (o := { dst := some 16, op := Op.call { callee := Callee.value (Operand.func 86), args := #[Operand.tmp 14, Operand.tmp 15], argTypes := #[26, 3] }, type := 3, pos := "generation.go:47", after := #[{ on := 1, ground := Ground.data }, { on := 2, ground := Ground.data }], guard := none }) rfl (fun K_ hK_ => ?_) (AllReadyH.cons (o := { dst := some 17, op := Op.makeSlice 23 (Operand.const (Value.int IntKind.i64 64)) (Operand.const (Value.int IntKind.i64 64)), type := 23, pos := "generation.go:47", after := #[], guard := none }) rfl (fun K_ hK_ => ?_) AllReadyH.nil))
      go_simp
      go_at_call 86
      refine (unhide Hf _ ((Below.refl w.heap.size w).drew)).mono ?_
      rintro e WA ⟨rfl, hbA⟩
      have HBA := hide (((Below.refl w.heap.size w).drew).trans (hbA.mono ((Below.refl w.heap.size w).drew).size))
      have HBA2 := hide hbA
      clear hbA
      go_simp
      refine hK_.out _ _ (trivial) (fun hHeld => ?_)
      clear hK_ K_
      (try simp only [Act.put, List.setIfInBounds_toArray, List.set_cons_zero, List.set_cons_succ])
      refine wpAnyH_ready (rs := [4]) (by kernel_rfl) (by simp) ?_
      refine AllReadyH.cons (o := { dst := some 17, op := Op.makeSlice 23 (Operand.const (Value.int IntKind.i64 64)) (Operand.const (Value.int IntKind.i64 64)), type := 23, pos := "generation.go:47", after := #[], guard := none }) rfl (fun K_ hK_ => ?_) AllReadyH.nil
      obtain ⟨WB, hmk, hoB, hbB⟩ := hz WA
      go_simp
      have HBB := hide ((unhide HBA).trans (hbB.mono (unhide HBA).size))
      have HOB : Hid (OwnB WB w.heap.size (.slice (some ⟨WA.heap.size, 0, none⟩) 64 64) zeros) := OwnV.mono hoB (unhide HBA).size
      clear hmk hoB hbB
      refine hK_.out _ _ (trivial) (fun hHeld => ?_)
      clear hK_ K_
      (try simp only [Act.put, List.setIfInBounds_toArray, List.set_cons_zero, List.set_cons_succ])
      have HOx := hide (unhide HOB)
      have HBx := hide (unhide HBB)
      clear HOB HBB HBA HBA2
      refine wpAnyH_ready (rs := [5]) (by kernel_rfl) (by simp) ?_
      refine AllReadyH.cons (o := { dst := some 18, op := Op.call { callee := Callee.value (Operand.func 85), args := #[Operand.tmp 13, Operand.tmp 16, Operand.tmp 17], argTypes := #[26, 3, 23] }, type := 29, pos := "generation.go:47", after := #[{ on := 0, ground := Ground.data }, { on := 3, ground := Ground.data }, { on := 4, ground := Ground.data }, { on := 3, ground := Ground.chain }], guard := none }) rfl (fun K_ hK_ => ?_) AllReadyH.nil
      go_simp
      go_at_call 85
      refine (unhide Hs _ _ (unhide HBx) (unhide HOx)).mono ?_
      rintro e W2 ⟨rfl, S2, R2, hr2⟩
      have HR2 := hide hr2
      clear hr2 HOx HBx
      go_simp
      refine hK_.out _ _ (trivial) (fun hHeld => ?_)
      clear hK_ K_
      (try simp only [Act.put, List.setIfInBounds_toArray, List.set_cons_zero, List.set_cons_succ])
      refine wpAnyH_take (i := 6) (oi := { dst := some 8, op := Op.assign (Operand.tmp 18), type := 29, pos := "generation.go:47", after := #[{ on := 5, ground := Ground.data }, { on := 5, ground := Ground.chain }, { on := 0, ground := Ground.phase }, { on := 1, ground := Ground.phase }, { on := 2, ground := Ground.phase }, { on := 3, ground := Ground.phase }, { on := 4, ground := Ground.phase }, { on := 5, ground := Ground.phase }], guard := none }) (v := ?_) rfl (by kernel_rfl) (by kernel_rfl) (by kernel_rfl) (fun _ _ _ h => h) (Or.inl ⟨by rfl, ?c4⟩) (by assumption) ?_
      case c4 => (intro w_ hSw; (try dsimp only at hSw); go_simp; try with_reducible rfl)
      simp only [Act.put, List.setIfInBounds_toArray, List.set_cons_zero, List.set_cons_succ]
      refine wpAnyH_done (by kernel_rfl) ?_ _
      rotate_left
      obtain ⟨WB, hmk, hoB, hbB⟩ := hz w.drew
      go_simp
      have HBB := hide (((Below.refl w.heap.size w).drew).trans (hbB.mono ((Below.refl w.heap.size w).drew).size))
      have HOB : Hid (OwnB WB w.heap.size (.slice (some ⟨w.drew.heap.size, 0, none⟩) 64 64) zeros) := OwnV.mono hoB ((Below.refl w.heap.size w).drew).size
      clear hmk hoB hbB
      refine hK_.out _ _ (trivial) (fun hHeld => ?_)
      clear hK_ K_
      (try simp only [Act.put, List.setIfInBounds_toArray, List.set_cons_zero, List.set_cons_succ])
      refine wpAnyH_ready (rs := [3]) (by kernel_rfl) (by simp) ?_
      refine AllReadyH.cons (o := { dst := some 16, op := Op.call { callee := Callee.value (Operand.func 86), args := #[Operand.tmp 14, Operand.tmp 15], argTypes := #[26, 3] }, type := 3, pos := "generation.go:47", after := #[{ on := 1, ground := Ground.data }, { on := 2, ground := Ground.data }], guard := none }) rfl (fun K_ hK_ => ?_) AllReadyH.nil
      have HOx0 := hide (unhide HOB)
      go_simp
      go_at_call 86
      refine (unhide Hf _ (unhide HBB)).mono ?_
      rintro e WA ⟨rfl, hbA⟩
      have HBA := hide ((unhide HBB).trans (hbA.mono (unhide HBB).size))
      have HBA2 := hide hbA
      clear hbA
      go_simp
      refine hK_.out _ _ (trivial) (fun hHeld => ?_)
      clear hK_ K_
      (try simp only [Act.put, List.setIfInBounds_toArray, List.set_cons_zero, List.set_cons_succ])
      have HOx := hide (OwnV.below (unhide HOx0) (unhide HBA2))
      have HBx := hide (unhide HBA)
      clear HOB HBB HBA HBA2 HOx0
      refine wpAnyH_ready (rs := [5]) (by kernel_rfl) (by simp) ?_
      refine AllReadyH.cons (o := { dst := some 18, op := Op.call { callee := Callee.value (Operand.func 85), args := #[Operand.tmp 13, Operand.tmp 16, Operand.tmp 17], argTypes := #[26, 3, 23] }, type := 29, pos := "generation.go:47", after := #[{ on := 0, ground := Ground.data }, { on := 3, ground := Ground.data }, { on := 4, ground := Ground.data }, { on := 3, ground := Ground.chain }], guard := none }) rfl (fun K_ hK_ => ?_) AllReadyH.nil
      go_simp
      go_at_call 85
      refine (unhide Hs _ _ (unhide HBx) (unhide HOx)).mono ?_
      rintro e W2 ⟨rfl, S2, R2, hr2⟩
      have HR2 := hide hr2
      clear hr2 HOx HBx
      go_simp
      refine hK_.out _ _ (trivial) (fun hHeld => ?_)
      clear hK_ K_
      (try simp only [Act.put, List.setIfInBounds_toArray, List.set_cons_zero, List.set_cons_succ])
      refine wpAnyH_take (i := 6) (oi := { dst := some 8, op := Op.assign (Operand.tmp 18), type := 29, pos := "generation.go:47", after := #[{ on := 5, ground := Ground.data }, { on := 5, ground := Ground.chain }, { on := 0, ground := Ground.phase }, { on := 1, ground := Ground.phase }, { on := 2, ground := Ground.phase }, { on := 3, ground := Ground.phase }, { on := 4, ground := Ground.phase }, { on := 5, ground := Ground.phase }], guard := none }) (v := ?_) rfl (by kernel_rfl) (by kernel_rfl) (by kernel_rfl) (fun _ _ _ h => h) (Or.inl ⟨by rfl, ?c5⟩) (by assumption) ?_
      case c5 => (intro w_ hSw; (try dsimp only at hSw); go_simp; try with_reducible rfl)
      simp only [Act.put, List.setIfInBounds_toArray, List.set_cons_zero, List.set_cons_succ]
      refine wpAnyH_done (by kernel_rfl) ?_ _
      all_goals
        go_wp2_with (first
          | (go_at_call 66; refine (unhide HO _ _ _ (unhide HR2)).mono ?_; rintro e w3 ⟨l3, rfl, S3, R3, hr3⟩; have HR3 := hide hr3; clear hr3)
          | (go_at_call 50; refine (unhide HAp _ _ _ _ _ _ (unhide HR3)).mono ?_; rintro e w4 ⟨rfl, S4, R4, S5, R5, hr4⟩; have HR4 := hide hr4; clear hr4))
        go_ret2
        exact ⟨_, rfl, Or.inr ⟨trivial, rfl, _, _, (unhide HR4).run⟩⟩
  · rw [c50] at Hs
    obtain ⟨s1, hs1⟩ : ∃ y, (clearR s h g).1 = y := ⟨_, rfl⟩
    have hbr : beginR s h g first = (s1, 50, openL s (fromG h g) h g) := by
      unfold beginR
      rw [if_neg (by rw [c50]; decide), hs1, c50]
    rw [hs1] at Hs
    rw [hXN, hbr]
    simp only
    clear hp hx hxs hB hcl hRp HBt HXo HX hfew hfr h1 hhalf hfit hFR c50 hs1 hbr HLi hXN hfl hfn h4 HBR HFRL
    go_enter Tryz.func65, Tryz.ntmps65
    go_upto_region 1 with fail
    refine wp_region_held_drew (S := fun _ => True) (by kernel_rfl) (trivial) (fun hHeld => ?_)
    refine wpAnyH_take (i := 0) (oi := { dst := some 13, op := Op.move (Operand.tmp 0), type := 26, pos := "generation.go:47", after := #[], guard := none }) (v := ?_) rfl (by kernel_rfl) (by kernel_rfl) (by kernel_rfl) (fun _ _ _ h => h) (Or.inl ⟨by rfl, ?d1⟩) (by assumption) ?_
    case d1 => (intro w_ hSw; (try dsimp only at hSw); go_simp; try with_reducible rfl)
    simp only [Act.put, List.setIfInBounds_toArray, List.set_cons_zero, List.set_cons_succ]
    refine wpAnyH_take (i := 1) (oi := { dst := some 14, op := Op.move (Operand.tmp 0), type := 26, pos := "generation.go:47", after := #[], guard := none }) (v := ?_) rfl (by kernel_rfl) (by kernel_rfl) (by kernel_rfl) (fun _ _ _ h => h) (Or.inl ⟨by rfl, ?d2⟩) (by assumption) ?_
    case d2 => (intro w_ hSw; (try dsimp only at hSw); go_simp; try with_reducible rfl)
    simp only [Act.put, List.setIfInBounds_toArray, List.set_cons_zero, List.set_cons_succ]
    refine wpAnyH_take (i := 2) (oi := { dst := some 15, op := Op.move (Operand.tmp 1), type := 3, pos := "generation.go:47", after := #[], guard := none }) (v := ?_) rfl (by kernel_rfl) (by kernel_rfl) (by kernel_rfl) (fun _ _ _ h => h) (Or.inl ⟨by rfl, ?d3⟩) (by assumption) ?_
    case d3 => (intro w_ hSw; (try dsimp only at hSw); go_simp; try with_reducible rfl)
    simp only [Act.put, List.setIfInBounds_toArray, List.set_cons_zero, List.set_cons_succ]
    refine wpAnyH_ready (rs := [3, 4]) (by kernel_rfl) (by simp) ?_
    refine (AllReadyH.cons (o := { dst := some 16, op := Op.call { callee := Callee.value (Operand.func 86), args := #[Operand.tmp 14, Operand.tmp 15], argTypes := #[26, 3] }, type := 3, pos := "generation.go:47", after := #[{ on := 1, ground := Ground.data }, { on := 2, ground := Ground.data }], guard := none }) rfl (fun K_ hK_ => ?_) (AllReadyH.cons (o := { dst := some 17, op := Op.makeSlice 23 (Operand.const (Value.int IntKind.i64 64)) (Operand.const (Value.int IntKind.i64 64)), type := 23, pos := "generation.go:47", after := #[], guard := none }) rfl (fun K_ hK_ => ?_) AllReadyH.nil))
    go_simp
    go_at_call 86
    refine (unhide Hf _ ((Below.refl w.heap.size w).drew)).mono ?_
    rintro e WA ⟨rfl, hbA⟩
    have HBA := hide (((Below.refl w.heap.size w).drew).trans (hbA.mono ((Below.refl w.heap.size w).drew).size))
    have HBA2 := hide hbA
    clear hbA
    go_simp
    refine hK_.out _ _ (trivial) (fun hHeld => ?_)
    clear hK_ K_
    (try simp only [Act.put, List.setIfInBounds_toArray, List.set_cons_zero, List.set_cons_succ])
    refine wpAnyH_ready (rs := [4]) (by kernel_rfl) (by simp) ?_
    refine AllReadyH.cons (o := { dst := some 17, op := Op.makeSlice 23 (Operand.const (Value.int IntKind.i64 64)) (Operand.const (Value.int IntKind.i64 64)), type := 23, pos := "generation.go:47", after := #[], guard := none }) rfl (fun K_ hK_ => ?_) AllReadyH.nil
    obtain ⟨WB, hmk, hoB, hbB⟩ := hz WA
    go_simp
    have HBB := hide ((unhide HBA).trans (hbB.mono (unhide HBA).size))
    have HOB : Hid (OwnB WB w.heap.size (.slice (some ⟨WA.heap.size, 0, none⟩) 64 64) zeros) := OwnV.mono hoB (unhide HBA).size
    clear hmk hoB hbB
    refine hK_.out _ _ (trivial) (fun hHeld => ?_)
    clear hK_ K_
    (try simp only [Act.put, List.setIfInBounds_toArray, List.set_cons_zero, List.set_cons_succ])
    have HOx := hide (unhide HOB)
    have HBx := hide (unhide HBB)
    clear HOB HBB HBA HBA2
    refine wpAnyH_ready (rs := [5]) (by kernel_rfl) (by simp) ?_
    refine AllReadyH.cons (o := { dst := some 18, op := Op.call { callee := Callee.value (Operand.func 85), args := #[Operand.tmp 13, Operand.tmp 16, Operand.tmp 17], argTypes := #[26, 3, 23] }, type := 29, pos := "generation.go:47", after := #[{ on := 0, ground := Ground.data }, { on := 3, ground := Ground.data }, { on := 4, ground := Ground.data }, { on := 3, ground := Ground.chain }], guard := none }) rfl (fun K_ hK_ => ?_) AllReadyH.nil
    go_simp
    go_at_call 85
    refine (unhide Hs _ _ (unhide HBx) (unhide HOx)).mono ?_
    rintro e W2 ⟨rfl, S2, R2, hr2⟩
    have HR2 := hide hr2
    clear hr2 HOx HBx
    go_simp
    refine hK_.out _ _ (trivial) (fun hHeld => ?_)
    clear hK_ K_
    (try simp only [Act.put, List.setIfInBounds_toArray, List.set_cons_zero, List.set_cons_succ])
    refine wpAnyH_take (i := 6) (oi := { dst := some 8, op := Op.assign (Operand.tmp 18), type := 29, pos := "generation.go:47", after := #[{ on := 5, ground := Ground.data }, { on := 5, ground := Ground.chain }, { on := 0, ground := Ground.phase }, { on := 1, ground := Ground.phase }, { on := 2, ground := Ground.phase }, { on := 3, ground := Ground.phase }, { on := 4, ground := Ground.phase }, { on := 5, ground := Ground.phase }], guard := none }) (v := ?_) rfl (by kernel_rfl) (by kernel_rfl) (by kernel_rfl) (fun _ _ _ h => h) (Or.inl ⟨by rfl, ?d4⟩) (by assumption) ?_
    case d4 => (intro w_ hSw; (try dsimp only at hSw); go_simp; try with_reducible rfl)
    simp only [Act.put, List.setIfInBounds_toArray, List.set_cons_zero, List.set_cons_succ]
    refine wpAnyH_done (by kernel_rfl) ?_ _
    rotate_left
    obtain ⟨WB, hmk, hoB, hbB⟩ := hz w.drew
    go_simp
    have HBB := hide (((Below.refl w.heap.size w).drew).trans (hbB.mono ((Below.refl w.heap.size w).drew).size))
    have HOB : Hid (OwnB WB w.heap.size (.slice (some ⟨w.drew.heap.size, 0, none⟩) 64 64) zeros) := OwnV.mono hoB ((Below.refl w.heap.size w).drew).size
    clear hmk hoB hbB
    refine hK_.out _ _ (trivial) (fun hHeld => ?_)
    clear hK_ K_
    (try simp only [Act.put, List.setIfInBounds_toArray, List.set_cons_zero, List.set_cons_succ])
    refine wpAnyH_ready (rs := [3]) (by kernel_rfl) (by simp) ?_
    refine AllReadyH.cons (o := { dst := some 16, op := Op.call { callee := Callee.value (Operand.func 86), args := #[Operand.tmp 14, Operand.tmp 15], argTypes := #[26, 3] }, type := 3, pos := "generation.go:47", after := #[{ on := 1, ground := Ground.data }, { on := 2, ground := Ground.data }], guard := none }) rfl (fun K_ hK_ => ?_) AllReadyH.nil
    have HOx0 := hide (unhide HOB)
    go_simp
    go_at_call 86
    refine (unhide Hf _ (unhide HBB)).mono ?_
    rintro e WA ⟨rfl, hbA⟩
    have HBA := hide ((unhide HBB).trans (hbA.mono (unhide HBB).size))
    have HBA2 := hide hbA
    clear hbA
    go_simp
    refine hK_.out _ _ (trivial) (fun hHeld => ?_)
    clear hK_ K_
    (try simp only [Act.put, List.setIfInBounds_toArray, List.set_cons_zero, List.set_cons_succ])
    have HOx := hide (OwnV.below (unhide HOx0) (unhide HBA2))
    have HBx := hide (unhide HBA)
    clear HOB HBB HBA HBA2 HOx0
    refine wpAnyH_ready (rs := [5]) (by kernel_rfl) (by simp) ?_
    refine AllReadyH.cons (o := { dst := some 18, op := Op.call { callee := Callee.value (Operand.func 85), args := #[Operand.tmp 13, Operand.tmp 16, Operand.tmp 17], argTypes := #[26, 3, 23] }, type := 29, pos := "generation.go:47", after := #[{ on := 0, ground := Ground.data }, { on := 3, ground := Ground.data }, { on := 4, ground := Ground.data }, { on := 3, ground := Ground.chain }], guard := none }) rfl (fun K_ hK_ => ?_) AllReadyH.nil
    go_simp
    go_at_call 85
    refine (unhide Hs _ _ (unhide HBx) (unhide HOx)).mono ?_
    rintro e W2 ⟨rfl, S2, R2, hr2⟩
    have HR2 := hide hr2
    clear hr2 HOx HBx
    go_simp
    refine hK_.out _ _ (trivial) (fun hHeld => ?_)
    clear hK_ K_
    (try simp only [Act.put, List.setIfInBounds_toArray, List.set_cons_zero, List.set_cons_succ])
    refine wpAnyH_take (i := 6) (oi := { dst := some 8, op := Op.assign (Operand.tmp 18), type := 29, pos := "generation.go:47", after := #[{ on := 5, ground := Ground.data }, { on := 5, ground := Ground.chain }, { on := 0, ground := Ground.phase }, { on := 1, ground := Ground.phase }, { on := 2, ground := Ground.phase }, { on := 3, ground := Ground.phase }, { on := 4, ground := Ground.phase }, { on := 5, ground := Ground.phase }], guard := none }) (v := ?_) rfl (by kernel_rfl) (by kernel_rfl) (by kernel_rfl) (fun _ _ _ h => h) (Or.inl ⟨by rfl, ?d5⟩) (by assumption) ?_
    case d5 => (intro w_ hSw; (try dsimp only at hSw); go_simp; try with_reducible rfl)
    simp only [Act.put, List.setIfInBounds_toArray, List.set_cons_zero, List.set_cons_succ]
    refine wpAnyH_done (by kernel_rfl) ?_ _
    all_goals
      go_wp2
      go_ret2
      exact ⟨_, rfl, Or.inr ⟨trivial, rfl, _, _, unhide HR2⟩⟩
end
end Go.Proofs.YtbjgknoipbekoaaGreat
