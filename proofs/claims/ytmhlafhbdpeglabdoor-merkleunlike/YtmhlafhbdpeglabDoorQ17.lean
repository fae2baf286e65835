/-
  Slices of slices of bytes that grow, all of them in new memory.
  The walks of the tree's path and bridge.
  The walks of the tree's Path and Bridge: all that is told is new memory.
-/
import Derived.Test.YtmhlafhbdpeglabDoorQ2
import Derived.Test.YtmhlafhbdpeglabDoorQ1
import Derived.Test.YtmhlafhbdpeglabDoorQ13
import Derived.Test.YtmhlafhbdpeglabDoorQ14
namespace Go.Proofs.YtmhlafhbdpeglabDoor
open Go.RowKit
/-- A slice of slices of bytes of the call's own, that grows; its elements lie elsewhere, in new memory too. -/
def GrN (w : World) (base : Nat) (x : Value) (ls : List Bs) : Prop := ∃ vs : List Value, OwnV 23 w base x vs ∧ vs.length = ls.length ∧ ∀ i, i < ls.length → BytesAt w (vs.getD i undef) (ls.getD i []) ∧ (ls.getD i [] ≠ [] → Apart x (vs.getD i undef)) ∧ ∀ k, (vs.getD i undef).ownBlock = some k → base ≤ k
theorem grn_nil (w : World) (base : Nat) : GrN w base (.slice none 0 0) [] := ⟨[], own_nil _ _ _, rfl, fun i hi => by simp at hi⟩
theorem GrN.lists {w : World} {base : Nat} {x : Value} {ls : List Bs} (h : GrN w base x ls) : LL w x ls := by
  obtain ⟨vs, h1, h2, h3⟩ := h
  exact ⟨vs, h1.vals, h2, fun i hi => (h3 i hi).1⟩
theorem GrN.form {w : World} {base : Nat} {x : Value} {ls : List Bs} (h : GrN w base x ls) : ∃ sp c, x = .slice sp ls.length c := h.lists.form
theorem GrN.fresh {w : World} {base : Nat} {x : Value} {ls : List Bs} (h : GrN w base x ls) : Fresh base x := by
  obtain ⟨vs, h1, _⟩ := h
  exact h1.fresh
theorem GrN.lt {w : World} {base : Nat} {x : Value} {ls : List Bs} (h : GrN w base x ls) : ∀ k, x.ownBlock = some k → base ≤ k ∧ k < w.heap.size := by
  obtain ⟨vs, h1, _⟩ := h
  exact World.ownsRow.lt h1
theorem GrN.mono {w : World} {B B' : Nat} {x : Value} {ls : List Bs} (h : GrN w B x ls) (hB : B' ≤ B) : GrN w B' x ls := by
  obtain ⟨vs, h1, h2, h3⟩ := h
  exact ⟨vs, h1.mono hB, h2, fun i hi => ⟨(h3 i hi).1, (h3 i hi).2.1, fun k hk => Nat.le_trans hB ((h3 i hi).2.2 k hk)⟩⟩
theorem GrN.below {a b : World} {base : Nat} {x : Value} {ls : List Bs} (h : GrN a base x ls) (hb : Below a.heap.size a b) : GrN b base x ls := by
  obtain ⟨vs, h1, h2, h3⟩ := h
  exact ⟨vs, h1.below hb, h2, fun i hi => ⟨(h3 i hi).1.below hb, (h3 i hi).2⟩⟩
theorem GrN.next {w w' : World} {base : Nat} {v v' u : Value} {ls : List Bs} {b : Bs} {vs : List Value} (h2 : vs.length = ls.length) (h3 : ∀ i, i < ls.length → BytesAt w (vs.getD i undef) (ls.getD i []) ∧ (ls.getD i [] ≠ [] → Apart v (vs.getD i undef)) ∧ ∀ k, (vs.getD i undef).ownBlock = some k → base ≤ k) (hu : BytesAt w u b) (hap : b ≠ [] → Apart v u) (hnew : ∀ k, u.ownBlock = some k → base ≤ k)
    (ho : OwnV 23 w' base v' (vs ++ [u])) (hg : w.grownBy w' v.ownBlock) (hor : v'.ownBlock = v.ownBlock ∨ v'.ownBlock = some w.heap.size) : GrN w' base v' (ls ++ [b]) := by
  have key : ∀ (y : Value) (c : Bs), BytesAt w y c → (c ≠ [] → Apart v y) → BytesAt w' y c ∧ (c ≠ [] → Apart v' y) := fun y c hy ha => by
    refine ⟨bytes_grown hy hg fun hne k hk => ha hne k hk, fun hne k hk hq => ?_⟩
    rcases hor with e | e
    · rw [e] at hk; exact ha hne k hk hq
    · rw [e] at hk
      have := ValsAt.old hy (by simpa using hne) k hq
      simp only [Option.some.injEq] at hk
      omega
  refine ⟨vs ++ [u], ho, by simp [h2], fun i hi => ?_⟩
  rw [List.length_append, List.length_singleton] at hi
  by_cases hlt : i < ls.length
  · have e1 : (vs ++ [u]).getD i undef = vs.getD i undef := by simp [List.getD_eq_getElem?_getD, List.getElem?_append_left (show i < vs.length by omega)]
    have e2 : (ls ++ [b]).getD i [] = ls.getD i [] := by simp [List.getD_eq_getElem?_getD, List.getElem?_append_left hlt]
    rw [e1, e2]
    exact ⟨(key _ _ (h3 i hlt).1 (h3 i hlt).2.1).1, (key _ _ (h3 i hlt).1 (h3 i hlt).2.1).2, (h3 i hlt).2.2⟩
  · obtain rfl : i = ls.length := by omega
    have e1 : (vs ++ [u]).getD ls.length undef = u := by rw [← h2]; simp [List.getD_eq_getElem?_getD]
    have e2 : (ls ++ [b]).getD ls.length [] = b := by simp [List.getD_eq_getElem?_getD]
    rw [e1, e2]
    exact ⟨(key _ _ hu hap).1, (key _ _ hu hap).2, hnew⟩
/-- append of one to a list of the call's own. -/
theorem run_append_grn {w : World} {base : Nat} {v y u : Value} {l : List Bs} {b : Bs} (h : GrN w base v l) (hy : ValsAt w y [u]) (hu : BytesAt w u b) (hap : b ≠ [] → Apart v u) (hnew : ∀ k, u.ownBlock = some k → base ≤ k) (hb : base ≤ w.heap.size) (hlen : l.length + 1 ≤ 1073741824) (ty : TypeId) :
    ∃ v' w', (Builtin.append_ #[22, 22] ty #[v, y]).run Tryd.prog w = .ok v' w' ∧ GrN w' base v' (l ++ [b]) ∧ w.grownBy w' v.ownBlock ∧ (v'.ownBlock = v.ownBlock ∨ v'.ownBlock = some w.heap.size) := by
  obtain ⟨vs, h1, h2, h3⟩ := h
  obtain ⟨v', w', hr, ho, hg, hor⟩ := run_append_vals Ebb w base v y vs [u] h1 hy (fun x hx => by rw [List.mem_singleton.1 hx]; exact one_cell_bytes hu) hb (by simp; omega) ty
  exact ⟨v', w', hr, GrN.next h2 h3 hu hap hnew ho hg hor, hg, hor⟩
theorem wpList_append_grn {w : World} {ops : Array Oper} {rest : List Oper} {o : Oper} {a : Act} {Q : Exit → Act → World → Prop} (hgd : o.guard = none) (s x : Operand)
    (ho : o.op = .call { callee := .builtin .append, args := #[s, x], argTypes := #[22, 22] }) (base : Nat) (v y u : Value) (l : List Bs) (b : Bs) (hs : a.eval s = v) (hown : GrN w base v l)
    (hx : a.eval x = y) (hy : ValsAt w y [u]) (hu : BytesAt w u b) (hap : b ≠ [] → Apart v u) (hnew : ∀ k, u.ownBlock = some k → base ≤ k) (hb : base ≤ w.heap.size) (hlen : l.length + 1 ≤ 1073741824)
    (h : ∀ v' w', GrN w' base v' (l ++ [b]) → w.grownBy w' v.ownBlock → (v'.ownBlock = v.ownBlock ∨ v'.ownBlock = some w.heap.size) → wpList Tryd.prog ops Q rest (a.put o.dst v') w') : wpList Tryd.prog ops Q (o :: rest) a w := by
  obtain ⟨vs, h1, h2, h3⟩ := hown
  exact wpList_append_vals Ebb hgd s x ho base v y vs [u] hs h1 hx hy (fun x hx => by rw [List.mem_singleton.1 hx]; exact one_cell_bytes hu) hb (by simp; omega) fun v' w' ho' hg hor => h v' w' (GrN.next h2 h3 hu hap hnew ho' hg hor) hg hor
/-- The call gives these hashes, in a list of new memory. -/
def GivesN (w : World) (f : FuncId) (args : Array Value) (ls : List Bs) : Prop :=
  Calls Tryd.prog f args w fun e w' => ∃ v, e = .returned v ∧ GrN w' w.heap.size v ls ∧ Below w.heap.size w w'
theorem GrN.grl {w : World} {base : Nat} {x : Value} {ls : List Bs} (h : GrN w base x ls) : GrL w base x ls := by
  obtain ⟨vs, h1, h2, h3⟩ := h
  exact ⟨vs, h1, h2, fun i hi => ⟨(h3 i hi).1, (h3 i hi).2.1⟩⟩
/-- Nothing of the list lies in the blocks that are written. -/
theorem GrN.off {S : Set_} {a b : World} {base : Nat} {x : Value} {ls : List Bs} (h : GrN a base x ls) (hb : Aside S a b) (hS : ∀ k, base ≤ k → k < a.heap.size → ¬ S k) : LL b x ls := by
  obtain ⟨vs, h1, h2, h3⟩ := h
  refine ⟨vs, (h1.aside hb fun k hk => hS k (World.ownsRow.lt h1 k hk).1 (World.ownsRow.lt h1 k hk).2).vals, h2, fun i hi => ?_⟩
  obtain ⟨g1, _, g3⟩ := h3 i hi
  by_cases hne : ls.getD i [] = []
  · rw [hne] at g1 ⊢
    obtain ⟨sp, c, e, q1, q2, _⟩ := g1
    exact ⟨sp, c, e, q1, q2, fun e => absurd rfl e⟩
  · exact g1.aside hb fun k hk => hS k (g3 k hk) (ValsAt.old g1 (by simpa using hne) k hk)
end Go.Proofs.YtmhlafhbdpeglabDoor
namespace Go.Proofs.YtmhlafhbdpeglabDoor
open Go.RowKit
/-- A list, a hash beside it, and a slice of that hash alone. -/
theorem grn_lit {w w1 w2 : World} {v1 u : Value} {ls : List Bs} {b : Bs} (h1 : GrN w1 w.heap.size v1 ls) (hb1 : Below w.heap.size w w1) (hu : BytesAt w2 u b) (hb2 : Below w1.heap.size w1 w2) (hf : ∀ k, u.ownBlock = some k → w1.heap.size ≤ k) :
    GrN (w2.alloc (.cells #[u] 23)) w.heap.size v1 ls ∧ ValsAt (w2.alloc (.cells #[u] 23)) (.slice (some ⟨w2.heap.size, 0, none⟩) 1 1) [u] ∧ BytesAt (w2.alloc (.cells #[u] 23)) u b ∧ ((b ≠ [] → Apart v1 u) ∧ ∀ k, u.ownBlock = some k → w.heap.size ≤ k) ∧ w.heap.size ≤ (w2.alloc (.cells #[u] 23)).heap.size ∧ Below w.heap.size w (w2.alloc (.cells #[u] 23)) := by
  have hb3 : Below w2.heap.size w2 (w2.alloc (.cells #[u] 23)) := (Below.refl _ _).alloc (Nat.le_refl _) _
  have hB : Below w.heap.size w (w2.alloc (.cells #[u] 23)) := (hb1.trans (hb2.mono hb1.size)).trans (hb3.mono (Nat.le_trans hb1.size hb2.size))
  refine ⟨(h1.below hb2).below hb3, vals_new w2 [u] 23, hu.below hb3, ⟨fun _ k hk hq => ?_, fun k hk => Nat.le_trans hb1.size (hf k hk)⟩, hB.size, hB⟩
  have := h1.lt k hk
  have := hf k hq
  omega
theorem grn_below {w w3 w4 : World} {v1 : Value} {ls : List Bs} (h : GrN w3 w.heap.size v1 ls) (hB : Below w.heap.size w w3) (hg : w3.grownBy w4 v1.ownBlock) : Below w.heap.size w w4 := hB.grown hg hB.size fun k hk => h.fresh k hk
theorem nrow_fresh {w1 w2 : World} {u : Value} {b : Bs} (h : Row w1 w2 u b) : ∀ k, u.ownBlock = some k → w1.heap.size ≤ k := fun k hk => h.own.fresh k hk
/-- A list of one hash. -/
theorem grn_one {w w1 : World} {u : Value} {b : Bs} (hu : BytesAt w1 u b) (hb : Below w.heap.size w w1) (hne : b ≠ []) (hnew : ∀ k, u.ownBlock = some k → w.heap.size ≤ k) : GrN (w1.alloc (.cells #[u] 23)) w.heap.size (.slice (some ⟨w1.heap.size, 0, none⟩) 1 1) [b] ∧ Below w.heap.size w (w1.alloc (.cells #[u] 23)) := by
  have hb3 : Below w1.heap.size w1 (w1.alloc (.cells #[u] 23)) := (Below.refl _ _).alloc (Nat.le_refl _) _
  refine ⟨⟨[u], (own_new 23 w1 [u] (by simp [maxLen])).mono hb.size, rfl, fun i hi => ?_⟩, hb.trans (hb3.mono hb.size)⟩
  obtain rfl : i = 0 := by simpa using hi
  refine ⟨hu.below hb3, fun _ k hk hq => ?_, hnew⟩
  have := ValsAt.old hu (by simpa using hne) k hq
  simp [Value.ownBlock] at hk
  omega
theorem npath_few {g : Nat → Bs} {f m n : Nat} (h : n ≤ 101) : (pathP Sha.shaOf g f m n).length ≤ 7 := path_len 7 n f m (by omega)
theorem nbridge_few {g : Nat → Bs} {f m n : Nat} {known : Bool} (h : n ≤ 101) : (bridgeP Sha.shaOf g f m n known).length ≤ 8 := bridge_len 7 n f m known (by omega)
set_option maxRecDepth 100000 in
set_option maxHeartbeats 4000000 in
theorem ntpath_i {S : Set_} {t : Nat} {g : Nat → Bs} {N : Nat} (hg : ∀ i, (g i).length = 32) (hN : N ≤ 101) : ∀ (n f m : Nat), m < n → Dv f n → f + n ≤ N → ∀ w, Sha.Ready w → TreeAt S w t g N →
    GivesN w 35 #[.pointer (some ⟨t, 0, none⟩), .int .i64 (f : Int), .int .i64 (m : Int), .int .i64 (n : Int)] (pathP Sha.shaOf g f m n) := by
  intro n
  induction n using Nat.strongRecOn with
  | ind n ih =>
    intro f m hm hd hf w hr T
    have n1 : (1 : Int) ≤ (n : Int) := by omega
    have n2 : (n : Int) ≤ 101 := by omega
    have f0 : (0 : Int) ≤ (f : Int) := by omega
    have f1 : (f : Int) ≤ 101 := by omega
    have m0 : (0 : Int) ≤ (m : Int) := by omega
    have m1 : (m : Int) < (n : Int) := by omega
    by_cases h1 : n = 1
    · subst h1
      have He := hide (path_one Sha.shaOf g f m)
      clear ih hd hf hr T hg hN
      go_enter Tryd.func35, Tryd.ntmps35
      go_wp2
      go_ret
      exact ⟨_, rfl, by rw [unhide He]; exact grn_nil w _, Below.refl _ _⟩
    · have hn2 : 2 ≤ n := by omega
      have d1 : ((n : Int) == 1) = false := by simp; omega
      have hk1 := cut_lt hn2
      have hk0 := cut_pos n
      have Hcu := hide (fun w => split_c w n hn2 (by omega))
      have HT := hide T
      have HR := hide hr
      by_cases hmk : m < cutP n
      · have Hi := hide (ih (cutP n) hk1 f m hmk (hd.left hn2) (by omega))
        have Ho := hide (over_c (S := S) (t := t) hg hN (n - cutP n) (f + cutP n) (by omega) (hd.right hn2) (by omega))
        have He := hide (path_left Sha.shaOf g f hn2 hmk)
        have Hfew : Hid ((pathP Sha.shaOf g f m (cutP n)).length + 1 ≤ 1073741824) := by show _ ≤ _; have := npath_few (g := g) (f := f) (m := m) (n := cutP n) (by omega); omega
        obtain ⟨K, hK⟩ : ∃ K, cutP n = K := ⟨_, rfl⟩
        rw [hK] at hk1 hk0 Hi Ho He Hcu hmk Hfew
        obtain ⟨n', hn'⟩ : ∃ n', n - K = n' := ⟨_, rfl⟩
        obtain ⟨f', hf'⟩ : ∃ f', f + K = f' := ⟨_, rfl⟩
        rw [hn', hf'] at Ho He
        have k0 : (1 : Int) ≤ (K : Int) := by omega
        have k1 : (K : Int) < (n : Int) := by omega
        have e1 : (n : Int) - (K : Int) = (n' : Int) := by omega
        have e2 : (f : Int) + (K : Int) = (f' : Int) := by omega
        have dm : decide ((m : Int) < (K : Int)) = true := by simp; omega
        have dmn : decide (m < K) = true := by simp; omega
        clear hK hn' hf' hd hf ih T hr hg hN hn2
        go_enter Tryd.func35, Tryd.ntmps35
        go_wp2_with fail
        refine (unhide Hcu w).mono ?_
        rintro e w' ⟨rfl, hw'⟩
        subst hw'
        go_wp2_with fail
        refine (unhide Hi w' (unhide HR) (unhide HT)).mono ?_
        rintro e w1 ⟨v1, rfl, hG1, hb1⟩
        obtain ⟨s1, c1, rfl⟩ := hG1.form
        have HR1 := hide (ready_on (unhide HR) hb1)
        have HT1 := hide ((unhide HT).below hb1)
        have HG1 := hide hG1
        have HB1 := hide hb1
        clear hG1 hb1
        go_wp2_with fail
        refine (unhide Ho w1 (unhide HR1) (unhide HT1)).mono ?_
        rintro e w2 ⟨v2, rfl, hR2⟩
        have HL := hide (grn_lit (unhide HG1) (unhide HB1) hR2.bytes hR2.b (nrow_fresh hR2))
        obtain ⟨s2, n2, c2, rfl⟩ := hR2.bytes.forms
        clear hR2
        go_wp2_with (at_builtin; refine wpList_append_grn rfl _ _ rfl w'.heap.size _ _ _ _ _ rfl (unhide HL).1 rfl (unhide HL).2.1 (unhide HL).2.2.1 (unhide HL).2.2.2.1.1 (unhide HL).2.2.2.1.2 (unhide HL).2.2.2.2.1 (unhide Hfew) ?_
                     intro v4 w4 hG4 hg4 _
                     have HF : Hid (GrN w4 w'.heap.size v4 (pathP Sha.shaOf g f m n) ∧ Below w'.heap.size w' w4) := by show _ ∧ _; rw [unhide He]; exact ⟨hG4, grn_below (unhide HL).1 (unhide HL).2.2.2.2.2 hg4⟩
                     clear hG4 hg4)
        go_ret
        exact ⟨_, rfl, unhide HF⟩
      · have Hi := hide (ih (n - cutP n) (by omega) (f + cutP n) (m - cutP n) (by omega) (hd.right hn2) (by omega))
        have Ho := hide (over_c (S := S) (t := t) hg hN (cutP n) f hk0 (hd.left hn2) (by omega))
        have He := hide (path_right Sha.shaOf g f hn2 (show cutP n ≤ m by omega))
        have Hfew : Hid ((pathP Sha.shaOf g (f + cutP n) (m - cutP n) (n - cutP n)).length + 1 ≤ 1073741824) := by show _ ≤ _; have := npath_few (g := g) (f := f + cutP n) (m := m - cutP n) (n := n - cutP n) (by omega); omega
        obtain ⟨K, hK⟩ : ∃ K, cutP n = K := ⟨_, rfl⟩
        rw [hK] at hk1 hk0 Hi Ho He Hcu hmk Hfew
        obtain ⟨n', hn'⟩ : ∃ n', n - K = n' := ⟨_, rfl⟩
        obtain ⟨f', hf'⟩ : ∃ f', f + K = f' := ⟨_, rfl⟩
        obtain ⟨m', hm'⟩ : ∃ m', m - K = m' := ⟨_, rfl⟩
        rw [hn', hf', hm'] at Hi He Hfew
        have k0 : (1 : Int) ≤ (K : Int) := by omega
        have k1 : (K : Int) < (n : Int) := by omega
        have e1 : (n : Int) - (K : Int) = (n' : Int) := by omega
        have e2 : (f : Int) + (K : Int) = (f' : Int) := by omega
        have e3 : (m : Int) - (K : Int) = (m' : Int) := by omega
        have dm : decide ((m : Int) < (K : Int)) = false := by simp; omega
        have dmn : decide (m < K) = false := by simp; omega
        clear hK hn' hf' hm' hd hf ih T hr hg hN hn2
        go_enter Tryd.func35, Tryd.ntmps35
        go_wp2_with fail
        refine (unhide Hcu w).mono ?_
        rintro e w' ⟨rfl, hw'⟩
        subst hw'
        go_wp2_with fail
        refine (unhide Hi w' (unhide HR) (unhide HT)).mono ?_
        rintro e w1 ⟨v1, rfl, hG1, hb1⟩
        obtain ⟨s1, c1, rfl⟩ := hG1.form
        have HR1 := hide (ready_on (unhide HR) hb1)
        have HT1 := hide ((unhide HT).below hb1)
        have HG1 := hide hG1
        have HB1 := hide hb1
        clear hG1 hb1
        go_wp2_with fail
        refine (unhide Ho w1 (unhide HR1) (unhide HT1)).mono ?_
        rintro e w2 ⟨v2, rfl, hR2⟩
        have HL := hide (grn_lit (unhide HG1) (unhide HB1) hR2.bytes hR2.b (nrow_fresh hR2))
        obtain ⟨s2, n2, c2, rfl⟩ := hR2.bytes.forms
        clear hR2
        go_wp2_with (at_builtin; refine wpList_append_grn rfl _ _ rfl w'.heap.size _ _ _ _ _ rfl (unhide HL).1 rfl (unhide HL).2.1 (unhide HL).2.2.1 (unhide HL).2.2.2.1.1 (unhide HL).2.2.2.1.2 (unhide HL).2.2.2.2.1 (unhide Hfew) ?_
                     intro v4 w4 hG4 hg4 _
                     have HF : Hid (GrN w4 w'.heap.size v4 (pathP Sha.shaOf g f m n) ∧ Below w'.heap.size w' w4) := by show _ ∧ _; rw [unhide He]; exact ⟨hG4, grn_below (unhide HL).1 (unhide HL).2.2.2.2.2 hg4⟩
                     clear hG4 hg4)
        go_ret
        exact ⟨_, rfl, unhide HF⟩
set_option maxRecDepth 100000 in
set_option maxHeartbeats 4000000 in
theorem ntbridge_i {S : Set_} {t : Nat} {g : Nat → Bs} {N : Nat} (hg : ∀ i, (g i).length = 32) (hN : N ≤ 101) : ∀ (n f m : Nat) (known : Bool), 1 ≤ m → m ≤ n → Dv f n → f + n ≤ N → ∀ w, Sha.Ready w → TreeAt S w t g N →
    GivesN w 36 #[.pointer (some ⟨t, 0, none⟩), .int .i64 (f : Int), .int .i64 (m : Int), .int .i64 (n : Int), .bool known] (bridgeP Sha.shaOf g f m n known) := by
  intro n
  induction n using Nat.strongRecOn with
  | ind n ih =>
    intro f m known h1m hm hd hf w hr T
    have n1 : (1 : Int) ≤ (n : Int) := by omega
    have n2 : (n : Int) ≤ 101 := by omega
    have f0 : (0 : Int) ≤ (f : Int) := by omega
    have f1 : (f : Int) ≤ 101 := by omega
    have m0 : (1 : Int) ≤ (m : Int) := by omega
    have m1 : (m : Int) ≤ (n : Int) := by omega
    by_cases h1 : m = n
    · subst h1
      have d1 : ((m : Int) == (m : Int)) = true := by simp
      cases known with
      | true =>
        have He : Hid (bridgeP Sha.shaOf g f m m true = []) := by show _ = _; rw [bridge_end]; rfl
        clear ih hd hf hr T hg hN
        go_enter Tryd.func36, Tryd.ntmps36
        go_wp2
        go_ret
        exact ⟨_, rfl, by rw [unhide He]; exact grn_nil w _, Below.refl _ _⟩
      | false =>
        have He : Hid (bridgeP Sha.shaOf g f m m false = [rootP Sha.shaOf g f m]) := by show _ = _; rw [bridge_end]; rfl
        have Ho := hide (over_c (S := S) (t := t) hg hN m f (by omega) hd (by omega) w hr T)
        have Hlen : Hid (rootP Sha.shaOf g f m ≠ []) := fun e => by
          have := len_root (H := Sha.shaOf) (g := g) Sha.length_shaOf m f fun i _ _ => hg i
          rw [e] at this; simp at this
        clear ih hd hf hr T hg hN
        go_enter Tryd.func36, Tryd.ntmps36
        go_wp2_with fail
        refine (unhide Ho).mono ?_
        rintro e w1 ⟨v1, rfl, hR1⟩
        have HG := hide (grn_one hR1.bytes hR1.b (unhide Hlen) (fun k hk => hR1.own.fresh k hk))
        obtain ⟨s1, n1, c1, rfl⟩ := hR1.bytes.forms
        clear hR1
        go_wp2
        go_ret
        exact ⟨_, rfl, by rw [unhide He]; exact (unhide HG).1, (unhide HG).2⟩
    · have hn2 : 2 ≤ n := by omega
      have d1 : ((m : Int) == (n : Int)) = false := by simp; omega
      have hk1 := cut_lt hn2
      have hk0 := cut_pos n
      have Hcu := hide (fun w => split_c w n hn2 (by omega))
      have HT := hide T
      have HR := hide hr
      by_cases hmk : m ≤ cutP n
      · have Hi := hide (ih (cutP n) hk1 f m known h1m hmk (hd.left hn2) (by omega))
        have Ho := hide (over_c (S := S) (t := t) hg hN (n - cutP n) (f + cutP n) (by omega) (hd.right hn2) (by omega))
        have He := hide (bridge_left Sha.shaOf g f known hn2 hmk)
        have Hfew : Hid ((bridgeP Sha.shaOf g f m (cutP n) known).length + 1 ≤ 1073741824) := by show _ ≤ _; have := nbridge_few (g := g) (f := f) (m := m) (n := cutP n) (known := known) (by omega); omega
        obtain ⟨K, hK⟩ : ∃ K, cutP n = K := ⟨_, rfl⟩
        rw [hK] at hk1 hk0 Hi Ho He Hcu hmk Hfew
        obtain ⟨n', hn'⟩ : ∃ n', n - K = n' := ⟨_, rfl⟩
        obtain ⟨f', hf'⟩ : ∃ f', f + K = f' := ⟨_, rfl⟩
        rw [hn', hf'] at Ho He
        have k0 : (1 : Int) ≤ (K : Int) := by omega
        have k1 : (K : Int) < (n : Int) := by omega
        have e1 : (n : Int) - (K : Int) = (n' : Int) := by omega
        have e2 : (f : Int) + (K : Int) = (f' : Int) := by omega
        have dm : decide ((m : Int) ≤ (K : Int)) = true := by simp; omega
        have dmn : decide (m ≤ K) = true := by simp; omega
        clear hK hn' hf' hd hf ih T hr hg hN hn2
        go_enter Tryd.func36, Tryd.ntmps36
        go_wp2_with fail
        refine (unhide Hcu w).mono ?_
        rintro e w' ⟨rfl, hw'⟩
        subst hw'
        go_wp2_with fail
        refine (unhide Hi w' (unhide HR) (unhide HT)).mono ?_
        rintro e w1 ⟨v1, rfl, hG1, hb1⟩
        obtain ⟨s1, c1, rfl⟩ := hG1.form
        have HR1 := hide (ready_on (unhide HR) hb1)
        have HT1 := hide ((unhide HT).below hb1)
        have HG1 := hide hG1
        have HB1 := hide hb1
        clear hG1 hb1
        go_wp2_with fail
        refine (unhide Ho w1 (unhide HR1) (unhide HT1)).mono ?_
        rintro e w2 ⟨v2, rfl, hR2⟩
        have HL := hide (grn_lit (unhide HG1) (unhide HB1) hR2.bytes hR2.b (nrow_fresh hR2))
        obtain ⟨s2, n2, c2, rfl⟩ := hR2.bytes.forms
        clear hR2
        go_wp2_with (at_builtin; refine wpList_append_grn rfl _ _ rfl w'.heap.size _ _ _ _ _ rfl (unhide HL).1 rfl (unhide HL).2.1 (unhide HL).2.2.1 (unhide HL).2.2.2.1.1 (unhide HL).2.2.2.1.2 (unhide HL).2.2.2.2.1 (unhide Hfew) ?_
                     intro v4 w4 hG4 hg4 _
                     have HF : Hid (GrN w4 w'.heap.size v4 (bridgeP Sha.shaOf g f m n known) ∧ Below w'.heap.size w' w4) := by show _ ∧ _; rw [unhide He]; exact ⟨hG4, grn_below (unhide HL).1 (unhide HL).2.2.2.2.2 hg4⟩
                     clear hG4 hg4)
        go_ret
        exact ⟨_, rfl, unhide HF⟩
      · have Hi := hide (ih (n - cutP n) (by omega) (f + cutP n) (m - cutP n) false (by omega) (by omega) (hd.right hn2) (by omega))
        have Ho := hide (over_c (S := S) (t := t) hg hN (cutP n) f hk0 (hd.left hn2) (by omega))
        have He := hide (bridge_right Sha.shaOf g f known hn2 (show cutP n < m by omega) (by omega))
        have Hfew : Hid ((bridgeP Sha.shaOf g (f + cutP n) (m - cutP n) (n - cutP n) false).length + 1 ≤ 1073741824) := by show _ ≤ _; have := nbridge_few (g := g) (f := f + cutP n) (m := m - cutP n) (n := n - cutP n) (known := false) (by omega); omega
        obtain ⟨K, hK⟩ : ∃ K, cutP n = K := ⟨_, rfl⟩
        rw [hK] at hk1 hk0 Hi Ho He Hcu hmk Hfew
        obtain ⟨n', hn'⟩ : ∃ n', n - K = n' := ⟨_, rfl⟩
        obtain ⟨f', hf'⟩ : ∃ f', f + K = f' := ⟨_, rfl⟩
        obtain ⟨m', hm'⟩ : ∃ m', m - K = m' := ⟨_, rfl⟩
        rw [hn', hf', hm'] at Hi He Hfew
        have k0 : (1 : Int) ≤ (K : Int) := by omega
        have k1 : (K : Int) < (n : Int) := by omega
        have e1 : (n : Int) - (K : Int) = (n' : Int) := by omega
        have e2 : (f : Int) + (K : Int) = (f' : Int) := by omega
        have e3 : (m : Int) - (K : Int) = (m' : Int) := by omega
        have dm : decide ((m : Int) ≤ (K : Int)) = false := by simp; omega
        have dmn : decide (m ≤ K) = false := by simp; omega
        clear hK hn' hf' hm' hd hf ih T hr hg hN hn2
        go_enter Tryd.func36, Tryd.ntmps36
        go_wp2_with fail
        refine (unhide Hcu w).mono ?_
        rintro e w' ⟨rfl, hw'⟩
        subst hw'
        go_wp2_with fail
        refine (unhide Hi w' (unhide HR) (unhide HT)).mono ?_
        rintro e w1 ⟨v1, rfl, hG1, hb1⟩
        obtain ⟨s1, c1, rfl⟩ := hG1.form
        have HR1 := hide (ready_on (unhide HR) hb1)
        have HT1 := hide ((unhide HT).below hb1)
        have HG1 := hide hG1
        have HB1 := hide hb1
        clear hG1 hb1
        go_wp2_with fail
        refine (unhide Ho w1 (unhide HR1) (unhide HT1)).mono ?_
        rintro e w2 ⟨v2, rfl, hR2⟩
        have HL := hide (grn_lit (unhide HG1) (unhide HB1) hR2.bytes hR2.b (nrow_fresh hR2))
        obtain ⟨s2, n2, c2, rfl⟩ := hR2.bytes.forms
        clear hR2
        go_wp2_with (at_builtin; refine wpList_append_grn rfl _ _ rfl w'.heap.size _ _ _ _ _ rfl (unhide HL).1 rfl (unhide HL).2.1 (unhide HL).2.2.1 (unhide HL).2.2.2.1.1 (unhide HL).2.2.2.1.2 (unhide HL).2.2.2.2.1 (unhide Hfew) ?_
                     intro v4 w4 hG4 hg4 _
                     have HF : Hid (GrN w4 w'.heap.size v4 (bridgeP Sha.shaOf g f m n known) ∧ Below w'.heap.size w' w4) := by show _ ∧ _; rw [unhide He]; exact ⟨hG4, grn_below (unhide HL).1 (unhide HL).2.2.2.2.2 hg4⟩
                     clear hG4 hg4)
        go_ret
        exact ⟨_, rfl, unhide HF⟩
end Go.Proofs.YtmhlafhbdpeglabDoor
namespace Go.Proofs.YtmhlafhbdpeglabDoor
open Go.RowKit
def YesN (w : World) (f : FuncId) (args : Array Value) (ls : List Bs) : Prop := Calls Tryd.prog f args w fun e w' => ∃ v, e = .returned (.tuple #[v, .bool true]) ∧ GrN w' w.heap.size v ls ∧ Below w.heap.size w w'
set_option maxRecDepth 100000 in
set_option maxHeartbeats 1000000 in
theorem ntpath_yes {S : Set_} {t : Nat} {g : Nat → Bs} {N : Nat} (hg : ∀ i, (g i).length = 32) (hN : N ≤ 101) (w : World) (hr : Sha.Ready w) (T : TreeAt S w t g N) (m n : Nat) (hm : m < n) (hn : n ≤ N) : YesN w 14 #[.pointer (some ⟨t, 0, none⟩), .int .i64 (m : Int), .int .i64 (n : Int)] (pathP Sha.shaOf g 0 m n) := by
  have m0 : (0 : Int) ≤ (m : Int) := by omega
  have n1 : (n : Int) ≤ 101 := by omega
  have d0 : decide ((m : Int) < 0) = false := by simp
  have d2 : decide ((n : Int) ≤ (m : Int)) = false := by simp; omega
  have d2n : decide (n ≤ m) = false := by simp; omega
  have d1 : decide ((N : Int) < (n : Int)) = false := by simp; omega
  have d1n : decide (N < n) = false := by simp; omega
  have Hs := hide (tsize_c w T hN)
  have Ho := hide (ntpath_i (S := S) (t := t) hg hN n 0 m hm (dv_zero n) (by omega) w hr T)
  clear T hr hg hN
  go_enter Tryd.func14, Tryd.ntmps14
  go_wp2_with (first
    | (refine (unhide Hs).mono ?_
       rintro e w1 ⟨rfl, hw1⟩
       subst hw1
       clear Hs)
    | (refine (unhide Ho).mono ?_
       rintro e w2 ⟨v2, rfl, hG2, hb2⟩
       have HG2 := hide (And.intro hG2 hb2)
       clear hG2 hb2))
  refine bodyPost_ret (v := .tuple #[v2, .bool true]) (by simp [results, Tryd.results14, go_sem]) rfl ⟨_, rfl, unhide HG2⟩
set_option maxRecDepth 100000 in
set_option maxHeartbeats 1000000 in
theorem ntbridge_yes {S : Set_} {t : Nat} {g : Nat → Bs} {N : Nat} (hg : ∀ i, (g i).length = 32) (hN : N ≤ 101) (w : World) (hr : Sha.Ready w) (T : TreeAt S w t g N) (m n : Nat) (hm : m ≤ n) (hn : n ≤ N) : YesN w 15 #[.pointer (some ⟨t, 0, none⟩), .int .i64 (m : Int), .int .i64 (n : Int)] (if m = 0 ∨ m = n then [] else bridgeP Sha.shaOf g 0 m n true) := by
  have m0 : (0 : Int) ≤ (m : Int) := by omega
  have n1 : (n : Int) ≤ 101 := by omega
  have d0 : decide ((m : Int) < 0) = false := by simp
  have d2 : decide ((n : Int) < (m : Int)) = false := by simp; omega
  have d2n : decide (n < m) = false := by simp; omega
  have d1 : decide ((N : Int) < (n : Int)) = false := by simp; omega
  have d1n : decide (N < n) = false := by simp; omega
  have Hs := hide (tsize_c w T hN)
  by_cases hz : m = 0
  · subst hz
    rw [if_pos (Or.inl rfl)]
    clear T hr hg hN
    go_enter Tryd.func15, Tryd.ntmps15
    go_wp2_with ((refine (unhide Hs).mono ?_
                  rintro e w1 ⟨rfl, hw1⟩
                  subst hw1
                  clear Hs))
    refine bodyPost_ret (v := .tuple #[.slice none 0 0, .bool true]) (by simp [results, Tryd.results15, go_sem]) rfl ⟨_, rfl, grn_nil _ _, Below.refl _ _⟩
  · have He : (if m = 0 ∨ m = n then [] else bridgeP Sha.shaOf g 0 m n true) = bridgeP Sha.shaOf g 0 m n true := by
      by_cases e : m = n
      · subst e; rw [if_pos (Or.inr rfl), bridge_end]; rfl
      · rw [if_neg (by omega)]
    rw [He]
    have dz : ((m : Int) == 0) = false := by simp; omega
    have Ho := hide (ntbridge_i (S := S) (t := t) hg hN n 0 m true (by omega) hm (dv_zero n) (by omega) w hr T)
    clear T hr hg hN He
    go_enter Tryd.func15, Tryd.ntmps15
    go_wp2_with (first
      | (refine (unhide Hs).mono ?_
         rintro e w1 ⟨rfl, hw1⟩
         subst hw1
         clear Hs)
      | (refine (unhide Ho).mono ?_
         rintro e w2 ⟨v2, rfl, hG2, hb2⟩
         have HG2 := hide (And.intro hG2 hb2)
         clear hG2 hb2))
    refine bodyPost_ret (v := .tuple #[v2, .bool true]) (by simp [results, Tryd.results15, go_sem]) rfl ⟨_, rfl, unhide HG2⟩
end Go.Proofs.YtmhlafhbdpeglabDoor
