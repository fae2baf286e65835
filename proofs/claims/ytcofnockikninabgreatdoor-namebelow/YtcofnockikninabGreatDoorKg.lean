/-
  The walks of the landed universalRule and ruleFor: the rule that a value stands under.
-/
import Derived.Test.YtcofnockikninabGreatDoorKa
import Derived.Test.YtcofnockikninabGreatDoorKb
import Derived.Test.YtcofnockikninabGreatDoorKc
import Derived.Test.YtcofnockikninabGreatDoorKf
import Derived.Laws.EntriesVeiled
namespace Go.Proofs.YtcofnockikninabGreatDoor
open Go.RowKit
namespace K
/-- The two tables of unicode/utf8 lie in memory. -/
def Tabs (w : World) : Prop := Lib.Utf8Tabs 0 1 w
theorem Tabs.below {a b : World} (h : Tabs a) (hb : Below a.heap.size a b) : Tabs b := tabs_below h hb
theorem valid12 : BFn Tabs 126 (rightP 12) := fun w x b hR hx hl => by
  have e : rightP 12 b = validB b := by unfold rightP validB; simp
  rw [e]
  exact valid_c w x b hR hx hl
theorem anyb4 : BFn Tabs 104 (rightP 4) := fun w x b hR hx hl => by
  rw [right4]
  exact anyb_c Tabs w x b hR hx hl
/-- A row and a slot, handed back. -/
theorem res_row_tmp {P : Program} {fn : Func} {p u : Tmp} {ty : TypeId} (h : fn.results = #[.cell p ty, .tmp u]) (tmps : Array Value) (w : World) (g : Nat) (t : TypeId) (cs : Array Value) (fr : Nat × Nat) (d : TypeDesc)
    (hp : tmps.getD p undef = .pointer (some ⟨g, 0, none⟩)) (hg : w.heap[g]? = some (.cells cs t fr))
    (hu : P.underlying ty = some d) (hd : (match d with | .struct _ | .array _ _ => true | _ => false) = true) (hi : (P.info? ty).map (·.size) = some cs.size) (v : Value) (hv : tmps.getD u undef = v) :
    (results fn tmps).run P w = .ok (.tuple #[.agg cs, v]) w := by
  have hp' : tmps[p]?.getD undef = .pointer (some ⟨g, 0, none⟩) := by simpa using hp
  have hv' : tmps[u]?.getD undef = v := by simpa using hv
  simp [results, h, hp', hv', asAddr, run_loadVar_row w g t ty cs fr d hg hu hd hi]
/-- A row and two slots, handed back. -/
theorem res_row_tmp2 {P : Program} {fn : Func} {p u u2 : Tmp} {ty : TypeId} (h : fn.results = #[.cell p ty, .tmp u, .tmp u2]) (tmps : Array Value) (w : World) (g : Nat) (t : TypeId) (cs : Array Value) (fr : Nat × Nat) (d : TypeDesc)
    (hp : tmps.getD p undef = .pointer (some ⟨g, 0, none⟩)) (hg : w.heap[g]? = some (.cells cs t fr))
    (hu : P.underlying ty = some d) (hd : (match d with | .struct _ | .array _ _ => true | _ => false) = true) (hi : (P.info? ty).map (·.size) = some cs.size) (v v2 : Value) (hv : tmps.getD u undef = v) (hv2 : tmps.getD u2 undef = v2) :
    (results fn tmps).run P w = .ok (.tuple #[.agg cs, v, v2]) w := by
  have hp' : tmps[p]?.getD undef = .pointer (some ⟨g, 0, none⟩) := by simpa using hp
  have hv' : tmps[u]?.getD undef = v := by simpa using hv
  have hv2' : tmps[u2]?.getD undef = v2 := by simpa using hv2
  simp [results, h, hp', hv', hv2', asAddr, run_loadVar_row w g t ty cs fr d hg hu hd hi]
/-- A block of a call's own: what lies in it. -/
structure Blk (w0 wr : World) (A : Nat) (cs : Array Value) (T : TypeId) : Prop where
  res : wr.heap[A]? = some (.cells cs T (0, 0))
  b : Below w0.heap.size w0 wr
  ge : w0.heap.size ≤ A
theorem Blk.new {w0 wr : World} (hb : Below w0.heap.size w0 wr) (cs : Array Value) (T : TypeId) : Blk w0 (wr.alloc (.cells cs T)) wr.heap.size cs T :=
  ⟨heap_alloc_new wr _, hb.alloc hb.size _, hb.size⟩
theorem Blk.lt {w0 wr : World} {A : Nat} {cs : Array Value} {T : TypeId} (h : Blk w0 wr A cs T) : A < wr.heap.size := (Array.getElem?_eq_some_iff.1 h.res).1
theorem Blk.call {w0 wr w' : World} {A : Nat} {cs : Array Value} {T : TypeId} (h : Blk w0 wr A cs T) (hb : Below wr.heap.size wr w') : Blk w0 w' A cs T :=
  ⟨by rw [hb.block A h.lt]; exact h.res, h.b.trans (hb.mono h.b.size), h.ge⟩
theorem Blk.drew {w0 wr : World} {A : Nat} {cs : Array Value} {T : TypeId} (h : Blk w0 wr A cs T) : Blk w0 wr.drew A cs T := ⟨h.res, h.b.drew, h.ge⟩
theorem Blk.lit {w0 wr : World} {A : Nat} {cs : Array Value} {T : TypeId} (h : Blk w0 wr A cs T) (o : Obj) : Blk w0 (wr.alloc o) A cs T := h.call ((Below.refl _ _).alloc (Nat.le_refl _) _)
theorem set_below {w0 wr : World} {A : Nat} (hb : Below w0.heap.size w0 wr) (ge : w0.heap.size ≤ A) (cs : Array Value) : Below w0.heap.size w0 (wr.setRow A cs) :=
  hb.grown (row := some A) ⟨rfl, rfl, rfl, by simp [World.setRow], fun i hi hne => by simp only [World.setRow]; rw [Array.getElem?_modify, if_neg (fun e => hne (by rw [e]))]⟩ hb.size (fun g hg => by cases hg; exact ge)
theorem Blk.set {w0 wr : World} {A : Nat} {cs : Array Value} {T : TypeId} (h : Blk w0 wr A cs T) (cs' : Array Value) : Blk w0 (wr.setRow A cs') A cs' T :=
  ⟨setRow_heap wr A _ _ T (0, 0) h.res, set_below h.b h.ge cs', h.ge⟩
theorem Blk.other {w0 wr : World} {A B : Nat} {cs : Array Value} {T : TypeId} (h : Blk w0 wr A cs T) (hB : w0.heap.size ≤ B) (hne : A ≠ B) (cs' : Array Value) : Blk w0 (wr.setRow B cs') A cs T :=
  ⟨by simp only [World.setRow]; rw [Array.getElem?_modify, if_neg (fun e => hne e.symm)]; exact h.res, set_below h.b hB cs', h.ge⟩
theorem Blk.cell {w0 wr : World} {A : Nat} {cs : Array Value} {T : TypeId} (h : Blk w0 wr A cs T) (k : Nat) (u : Value) (hu : cs[k]? = some u) : wr.cell? ⟨A, k, none⟩ = some u := by
  rw [cell_of_row wr A k cs T (0, 0) h.res]
  exact hu
theorem Blk.frozen {w0 wr : World} {A : Nat} {cs : Array Value} {T : TypeId} (h : Blk w0 wr A cs T) (k : Nat) : wr.frozen? ⟨A, k, none⟩ = false := frozen_of_row wr A k _ T h.res
theorem Blk.put {w0 wr : World} {A : Nat} {cs : List Value} {T : TypeId} (h : Blk w0 wr A cs.toArray T) (k : Nat) (hk : k < cs.length) (v : Value) : Blk w0 (wr.setCell ⟨A, k, none⟩ v) A (cs.set k v).toArray T := by
  have h1 : RowAt T wr A [] cs := by unfold RowAt; rw [List.append_nil]; exact h.res
  have h2 := h1.set k hk v
  unfold RowAt at h2
  rw [List.append_nil] at h2
  exact ⟨h2, below_set h.b h.b.size A h.ge k v, h.ge⟩
theorem Blk.put3 {w0 wr : World} {A : Nat} {a b c : Value} {T : TypeId} (h : Blk w0 wr A #[a, b, c] T) (x y z : Value) : Blk w0 (((wr.setCell ⟨A, 0, none⟩ x).setCell ⟨A, 1, none⟩ y).setCell ⟨A, 2, none⟩ z) A #[x, y, z] T :=
  (((Blk.put (cs := [a, b, c]) h 0 (by simp) x).put 1 (by simp) y).put 2 (by simp) z)
theorem Blk.put5 {w0 wr : World} {A : Nat} {a b c d e : Value} {T : TypeId} (h : Blk w0 wr A #[a, b, c, d, e] T) (x y z u v : Value) : Blk w0 (((((wr.setCell ⟨A, 0, none⟩ x).setCell ⟨A, 1, none⟩ y).setCell ⟨A, 2, none⟩ z).setCell ⟨A, 3, none⟩ u).setCell ⟨A, 4, none⟩ v) A #[x, y, z, u, v] T :=
  (((((Blk.put (cs := [a, b, c, d, e]) h 0 (by simp) x).put 1 (by simp) y).put 2 (by simp) z).put 3 (by simp) u).put 4 (by simp) v)
theorem one3 (a b c : Value) (ha : a.oneCell' = true) (hb : b.oneCell' = true) (hc : c.oneCell' = true) : (#[a, b, c] : Array Value).all (·.oneCell') = true := by simp [ha, hb, hc]
theorem one5 (a b c d e : Value) (ha : a.oneCell' = true) (hb : b.oneCell' = true) (hc : c.oneCell' = true) (hd : d.oneCell' = true) (he : e.oneCell' = true) : (#[a, b, c, d, e] : Array Value).all (·.oneCell') = true := by simp [ha, hb, hc, hd, he]
theorem rule3 : (Tryz.prog.info? 121).map (·.size) = some 3 := by kernel_rfl
theorem value5 : (Tryz.prog.info? 36).map (·.size) = some 5 := by kernel_rfl
/-- A rule of a universal tag that is plain. -/
def PlainRule (t : Nat) (v : Value) : Prop := ∃ f : Nat, v = .func (.func f) #[] #[] ∧ Enters Tryz.prog f ∧ BFn Tabs f (rightP t)
set_option maxRecDepth 100000 in
set_option maxHeartbeats 16000000 in
theorem urule_plain (t : Nat) (ht : plainT t = true) (w : World) : Calls Tryz.prog 106 #[.int .i64 (t : Int)] w fun e w' => ∃ fb, e = .returned (.tuple #[.agg #[.bool false, fb, .nilFunc], .bool true]) ∧ PlainRule t fb ∧ Below w.heap.size w w' := by
  have hc : t = 1 ∨ t = 2 ∨ t = 3 ∨ t = 4 ∨ t = 5 ∨ t = 6 ∨ t = 10 ∨ t = 12 ∨ t = 19 ∨ t = 22 ∨ t = 23 ∨ t = 24 := by
    unfold plainT at ht
    simp at ht
    omega
  clear ht
  have Hb : ∀ cs : Array Value, Below w.heap.size w (w.alloc (.cells cs 121)) := fun cs => (Below.refl _ _).alloc (Nat.le_refl _) _
  have HB := hide Hb
  clear Hb
  rcases hc with rfl | rfl | rfl | rfl | rfl | rfl | rfl | rfl | rfl | rfl | rfl | rfl
  · go_enter Tryz.func106, Tryz.ntmps106
    go_wp2
    exact bodyPost_ret (res_row_tmp Tryz.results106 _ _ w.heap.size 121 #[.bool false, .func (.func 121) #[] #[], .nilFunc] (0, 0) _ rfl (heap_alloc_new w _) Tryz.underlying121 rfl rule3 (.bool true) rfl) rfl ⟨_, rfl, ⟨121, rfl, enters_of Tryz.func121 (by kernel_rfl) rfl, isbool_c Tabs⟩, unhide HB _⟩
  · go_enter Tryz.func106, Tryz.ntmps106
    go_wp2
    exact bodyPost_ret (res_row_tmp Tryz.results106 _ _ w.heap.size 121 #[.bool false, .func (.func 122) #[] #[], .nilFunc] (0, 0) _ rfl (heap_alloc_new w _) Tryz.underlying121 rfl rule3 (.bool true) rfl) rfl ⟨_, rfl, ⟨122, rfl, enters_of Tryz.func122 (by kernel_rfl) rfl, isint_c Tabs 2 (Or.inl rfl)⟩, unhide HB _⟩
  · go_enter Tryz.func106, Tryz.ntmps106
    go_wp2
    exact bodyPost_ret (res_row_tmp Tryz.results106 _ _ w.heap.size 121 #[.bool false, .func (.func 123) #[] #[], .nilFunc] (0, 0) _ rfl (heap_alloc_new w _) Tryz.underlying121 rfl rule3 (.bool true) rfl) rfl ⟨_, rfl, ⟨123, rfl, enters_of Tryz.func123 (by kernel_rfl) rfl, isbits_c Tabs⟩, unhide HB _⟩
  · go_enter Tryz.func106, Tryz.ntmps106
    go_wp2
    exact bodyPost_ret (res_row_tmp Tryz.results106 _ _ w.heap.size 121 #[.bool false, .func (.func 104) #[] #[], .nilFunc] (0, 0) _ rfl (heap_alloc_new w _) Tryz.underlying121 rfl rule3 (.bool true) rfl) rfl ⟨_, rfl, ⟨104, rfl, enters_of Tryz.func104 (by kernel_rfl) rfl, anyb4⟩, unhide HB _⟩
  · go_enter Tryz.func106, Tryz.ntmps106
    go_wp2
    exact bodyPost_ret (res_row_tmp Tryz.results106 _ _ w.heap.size 121 #[.bool false, .func (.func 124) #[] #[], .nilFunc] (0, 0) _ rfl (heap_alloc_new w _) Tryz.underlying121 rfl rule3 (.bool true) rfl) rfl ⟨_, rfl, ⟨124, rfl, enters_of Tryz.func124 (by kernel_rfl) rfl, isnull_c Tabs⟩, unhide HB _⟩
  · go_enter Tryz.func106, Tryz.ntmps106
    go_wp2
    exact bodyPost_ret (res_row_tmp Tryz.results106 _ _ w.heap.size 121 #[.bool false, .func (.func 125) #[] #[], .nilFunc] (0, 0) _ rfl (heap_alloc_new w _) Tryz.underlying121 rfl rule3 (.bool true) rfl) rfl ⟨_, rfl, ⟨125, rfl, enters_of Tryz.func125 (by kernel_rfl) rfl, isoid_c Tabs⟩, unhide HB _⟩
  · go_enter Tryz.func106, Tryz.ntmps106
    go_wp2
    exact bodyPost_ret (res_row_tmp Tryz.results106 _ _ w.heap.size 121 #[.bool false, .func (.func 122) #[] #[], .nilFunc] (0, 0) _ rfl (heap_alloc_new w _) Tryz.underlying121 rfl rule3 (.bool true) rfl) rfl ⟨_, rfl, ⟨122, rfl, enters_of Tryz.func122 (by kernel_rfl) rfl, isint_c Tabs 10 (Or.inr rfl)⟩, unhide HB _⟩
  · go_enter Tryz.func106, Tryz.ntmps106
    go_wp2
    exact bodyPost_ret (res_row_tmp Tryz.results106 _ _ w.heap.size 121 #[.bool false, .func (.func 126) #[] #[], .nilFunc] (0, 0) _ rfl (heap_alloc_new w _) Tryz.underlying121 rfl rule3 (.bool true) rfl) rfl ⟨_, rfl, ⟨126, rfl, enters_of Tryz.func126 (by kernel_rfl) rfl, valid12⟩, unhide HB _⟩
  · go_enter Tryz.func106, Tryz.ntmps106
    go_wp2
    exact bodyPost_ret (res_row_tmp Tryz.results106 _ _ w.heap.size 121 #[.bool false, .func (.func 128) #[] #[], .nilFunc] (0, 0) _ rfl (heap_alloc_new w _) Tryz.underlying121 rfl rule3 (.bool true) rfl) rfl ⟨_, rfl, ⟨128, rfl, enters_of Tryz.func128 (by kernel_rfl) rfl, isprint_c Tabs⟩, unhide HB _⟩
  · go_enter Tryz.func106, Tryz.ntmps106
    go_wp2
    exact bodyPost_ret (res_row_tmp Tryz.results106 _ _ w.heap.size 121 #[.bool false, .func (.func 129) #[] #[], .nilFunc] (0, 0) _ rfl (heap_alloc_new w _) Tryz.underlying121 rfl rule3 (.bool true) rfl) rfl ⟨_, rfl, ⟨129, rfl, enters_of Tryz.func129 (by kernel_rfl) rfl, isascii_c Tabs⟩, unhide HB _⟩
  · go_enter Tryz.func106, Tryz.ntmps106
    go_wp2
    exact bodyPost_ret (res_row_tmp Tryz.results106 _ _ w.heap.size 121 #[.bool false, .func (.func 130) #[] #[], .nilFunc] (0, 0) _ rfl (heap_alloc_new w _) Tryz.underlying121 rfl rule3 (.bool true) rfl) rfl ⟨_, rfl, ⟨130, rfl, enters_of Tryz.func130 (by kernel_rfl) rfl, short_c Tabs⟩, unhide HB _⟩
  · go_enter Tryz.func106, Tryz.ntmps106
    go_wp2
    exact bodyPost_ret (res_row_tmp Tryz.results106 _ _ w.heap.size 121 #[.bool false, .func (.func 131) #[] #[], .nilFunc] (0, 0) _ rfl (heap_alloc_new w _) Tryz.underlying121 rfl rule3 (.bool true) rfl) rfl ⟨_, rfl, ⟨131, rfl, enters_of Tryz.func131 (by kernel_rfl) rfl, long_c Tabs⟩, unhide HB _⟩
set_option maxRecDepth 100000 in
set_option maxHeartbeats 16000000 in
theorem urule_made (t : Nat) (ht : madeT t = true) (w : World) : Calls Tryz.prog 106 #[.int .i64 (t : Int)] w fun e w' => e = .returned (.tuple #[.agg #[.bool true, .nilFunc, .func (.func (if t = 17 then 127 else 105)) #[] #[]], .bool true]) ∧ Below w.heap.size w w' := by
  have hc : t = 16 ∨ t = 17 := by
    unfold madeT at ht
    simp at ht
    omega
  clear ht
  have Hb : ∀ cs : Array Value, Below w.heap.size w (w.alloc (.cells cs 121)) := fun cs => (Below.refl _ _).alloc (Nat.le_refl _) _
  have HB := hide Hb
  clear Hb
  rcases hc with rfl | rfl
  · go_enter Tryz.func106, Tryz.ntmps106
    go_wp2
    exact bodyPost_ret (res_row_tmp Tryz.results106 _ _ w.heap.size 121 #[.bool true, .nilFunc, .func (.func 105) #[] #[]] (0, 0) _ rfl (heap_alloc_new w _) Tryz.underlying121 rfl rule3 (.bool true) rfl) rfl ⟨rfl, unhide HB _⟩
  · go_enter Tryz.func106, Tryz.ntmps106
    go_wp2
    exact bodyPost_ret (res_row_tmp Tryz.results106 _ _ w.heap.size 121 #[.bool true, .nilFunc, .func (.func 127) #[] #[]] (0, 0) _ rfl (heap_alloc_new w _) Tryz.underlying121 rfl rule3 (.bool true) rfl) rfl ⟨rfl, unhide HB _⟩
set_option maxRecDepth 100000 in
set_option maxHeartbeats 16000000 in
theorem urule_none (t : Nat) (h1 : madeT t = false) (h2 : plainT t = false) (w : World) : Calls Tryz.prog 106 #[.int .i64 (t : Int)] w fun e w' => e = .returned (.tuple #[.agg #[.bool false, .nilFunc, .nilFunc], .bool false]) ∧ Below w.heap.size w w' := by
  have hc : ¬ (t = 1 ∨ t = 2 ∨ t = 3 ∨ t = 4 ∨ t = 5 ∨ t = 6 ∨ t = 10 ∨ t = 12 ∨ t = 19 ∨ t = 22 ∨ t = 23 ∨ t = 24 ∨ t = 16 ∨ t = 17) := by
    unfold plainT at h2
    unfold madeT at h1
    simp at h1 h2
    omega
  clear h1 h2
  have Hb : ∀ cs : Array Value, Below w.heap.size w (w.alloc (.cells cs 121)) := fun cs => (Below.refl _ _).alloc (Nat.le_refl _) _
  have HB := hide Hb
  clear Hb
  have d1 : ((t : Int) == 1) = false := by simp; omega
  have d2 : ((t : Int) == 2) = false := by simp; omega
  have d3 : ((t : Int) == 3) = false := by simp; omega
  have d4 : ((t : Int) == 4) = false := by simp; omega
  have d5 : ((t : Int) == 5) = false := by simp; omega
  have d6 : ((t : Int) == 6) = false := by simp; omega
  have d10 : ((t : Int) == 10) = false := by simp; omega
  have d12 : ((t : Int) == 12) = false := by simp; omega
  have d19 : ((t : Int) == 19) = false := by simp; omega
  have d22 : ((t : Int) == 22) = false := by simp; omega
  have d23 : ((t : Int) == 23) = false := by simp; omega
  have d24 : ((t : Int) == 24) = false := by simp; omega
  have d16 : ((t : Int) == 16) = false := by simp; omega
  have d17 : ((t : Int) == 17) = false := by simp; omega
  clear hc
  go_enter Tryz.func106, Tryz.ntmps106
  go_wp2
  exact bodyPost_ret (res_row_tmp Tryz.results106 _ _ w.heap.size 121 #[.bool false, .nilFunc, .nilFunc] (0, 0) _ rfl (heap_alloc_new w _) Tryz.underlying121 rfl rule3 (.bool false) rfl) rfl ⟨rfl, unhide HB _⟩
/-- Has the table a row of its tag and form? -/
def okT (c t : Nat) (m : Bool) : Bool := if c = 0 then (madeT t || plainT t) && (madeT t == m) else true
/-- Are bytes right for a class and tag? -/
def rightC (c t : Nat) (b : Bs) : Bool := if c = 0 then rightP t b else true
/-- The rule of a plain value. -/
def BytesRule (c t : Nat) (v : Value) : Prop := ∃ f : Nat, v = .func (.func f) #[] #[] ∧ Enters Tryz.prog f ∧ BFn Tabs f (rightC c t)
/-- The rule of a made one. -/
def KidsRule (c t : Nat) (v : Value) : Prop := v = .func (.func (if c = 0 ∧ t = 17 then 127 else 105)) #[] #[]
/-- What is told of a rule: three cells. -/
def RuleTold (c t : Nat) (m : Bool) (fb fk : Value) : Prop := okT c t m = true → (m = false → BytesRule c t fb) ∧ (m = true → KidsRule c t fk)
/-- A function value, or none. -/
def FnV (v : Value) : Prop := v = .nilFunc ∨ ∃ f, v = .func (.func f) #[] #[]
set_option maxRecDepth 100000 in
set_option maxHeartbeats 16000000 in
theorem rule_c (c t : Nat) (m : Bool) (s1 s2 : Option Addr) (n1 c1 n2 c2 : Nat) (w : World) :
    Calls Tryz.prog 87 #[.agg #[.int .i64 (c : Int), .int .i64 (t : Int), .bool m, .slice s1 n1 c1, .slice s2 n2 c2]] w fun e w' => ∃ mm fb fk, e = .returned (.tuple #[.agg #[.bool mm, fb, fk], .bool (okT c t m)]) ∧ FnV fb ∧ FnV fk ∧ RuleTold c t m fb fk ∧ Below w.heap.size w w' := by
  have hA := Blk.new (Below.refl w.heap.size w) #[.int .i64 (c : Int), .int .i64 (t : Int), .bool m, .slice s1 n1 c1, .slice s2 n2 c2] 36
  obtain ⟨w1, hw1⟩ : ∃ w1, w.alloc (.cells #[.int .i64 (c : Int), .int .i64 (t : Int), .bool m, .slice s1 n1 c1, .slice s2 n2 c2] 36) = w1 := ⟨_, rfl⟩
  rw [hw1] at hA
  have hB := Blk.new hA.b #[.bool false, .nilFunc, .nilFunc] 121
  have hA2 := hA.lit (.cells #[.bool false, .nilFunc, .nilFunc] 121)
  obtain ⟨w2, hw2⟩ : ∃ w2, w1.alloc (.cells #[.bool false, .nilFunc, .nilFunc] 121) = w2 := ⟨_, rfl⟩
  rw [hw2] at hB hA2
  obtain ⟨A, eA⟩ : ∃ A, w.heap.size = A := ⟨_, rfl⟩
  obtain ⟨B, eB⟩ : ∃ B, w1.heap.size = B := ⟨_, rfl⟩
  have hAB : A ≠ B := by have := hA.lt; omega
  rw [eA] at hA2
  rw [eB] at hB
  have k0 := hA2.cell 0 _ rfl
  have k1 := hA2.cell 1 _ rfl
  have k2 := hA2.cell 2 _ rfl
  have HA2 := hide hA2
  have HB := hide hB
  have HE := hide eA
  clear hA hA2 hB
  by_cases hc : c = 0
  case neg =>
    have d0 : ((c : Int) == 0) = false := by simp; omega
    have d0' : ((c : Int) != 0) = true := by simp; omega
    have HT : Hid (okT c t m = true) := by show _ = _; unfold okT; rw [if_neg hc]
    have HR : Hid (RuleTold c t m (.func (.func 104) #[] #[]) (.func (.func 105) #[] #[])) := fun _ => ⟨fun _ => ⟨104, rfl, enters_of Tryz.func104 (by kernel_rfl) rfl, fun W x b hR hx hl => by
      have e : rightC c t b = true := by unfold rightC; rw [if_neg hc]
      rw [e]
      exact anyb_c Tabs W x b hR hx hl⟩, fun _ => by unfold KidsRule; rw [if_neg (fun h => hc h.1)]⟩
    clear hc
    go_enter Tryz.func87, Tryz.ntmps87
    have HO := hide (one3 (.bool m) (.func (.func 104) #[] #[]) (.func (.func 105) #[] #[]) rfl rfl rfl)
    go_wp2_with (refine wpList_store_row rfl 121 _ _ rfl B #[.bool m, .func (.func 104) #[] #[], .func (.func 105) #[] #[]] rfl rfl 121 _ (unhide HB).res rule3 rfl (unhide HO) ?_)
    have h1 := (unhide HB).set #[.bool m, .func (.func 104) #[] #[], .func (.func 105) #[] #[]]
    exact bodyPost_ret (res_row_tmp Tryz.results87 _ _ B 121 #[.bool m, .func (.func 104) #[] #[], .func (.func 105) #[] #[]] (0, 0) _ rfl h1.res Tryz.underlying121 rfl rule3 (.bool true) rfl) rfl ⟨m, _, _, by rw [unhide HT], Or.inr ⟨_, rfl⟩, Or.inr ⟨_, rfl⟩, unhide HR, h1.b⟩
  have d0 : ((c : Int) == 0) = true := by simp; omega
  have d0' : ((c : Int) != 0) = false := by simp; omega
  have HC := hide hc
  clear hc
  by_cases hp : plainT t = true
  · have hm : madeT t = false := by
      unfold plainT at hp
      unfold madeT
      simp at hp ⊢
      omega
    have HU := hide (urule_plain t hp w2)
    have HT : Hid (okT c t m = !m) := by show _ = _; unfold okT; rw [if_pos (unhide HC), hp, hm]; cases m <;> rfl
    have HRC : Hid (∀ b, rightC c t b = rightP t b) := fun b => by unfold rightC; rw [if_pos (unhide HC)]
    clear hp hm
    go_enter Tryz.func87, Tryz.ntmps87
    go_wp2_with fail
    refine (unhide HU).mono ?_
    rintro e w3 ⟨fb, rfl, ⟨f, rfl, hen, hbf⟩, hb3⟩
    have HF := hide (And.intro hen hbf)
    clear hen hbf
    have hA3 := (unhide HA2).call hb3
    have hB3 := (unhide HB).call hb3
    have hD := Blk.new hA3.b #[.bool false, .func (.func f) #[] #[], .nilFunc] 121
    have hA4 := hA3.lit (.cells #[.bool false, .func (.func f) #[] #[], .nilFunc] 121)
    have hB4 := hB3.lit (.cells #[.bool false, .func (.func f) #[] #[], .nilFunc] 121)
    have hDB : w3.heap.size ≠ B := by have := hB3.lt; omega
    obtain ⟨D, eD⟩ : ∃ D, w3.heap.size = D := ⟨_, rfl⟩
    rw [eD] at hD hDB
    have HD3 := hide hD
    have HA3 := hide hA4
    have HB3 := hide hB4
    clear HU hA3 hB3 hD hA4 hB4 hb3 HB HA2 k0 k1 k2
    go_wp2_with fail
    obtain ⟨w4, hw4⟩ : ∃ w4, w3.alloc (.cells #[.bool false, .func (.func f) #[] #[], .nilFunc] 121) = w4 := ⟨_, rfl⟩
    rw [hw4] at HD3 HA3 HB3 ⊢
    have hD := unhide HD3
    have hA4 := unhide HA3
    have hB4 := unhide HB3
    have j0 := hA4.cell 0 _ rfl
    have j1 := hA4.cell 1 _ rfl
    have j2 := hA4.cell 2 _ rfl
    have l0 := hD.cell 0 _ rfl
    have l1 := hD.cell 1 _ rfl
    have l2 := hD.cell 2 _ rfl
    have b0 := hB4.cell 0 _ rfl
    have b1 := hB4.cell 1 _ rfl
    have b2 := hB4.cell 2 _ rfl
    have f0 := hB4.frozen 0
    have f1 := hB4.frozen 1
    have f2 := hB4.frozen 2
    have HB4 := hide hB4
    clear hD hA4 hB4 HD3 HA3 HB3 hw4
    cases m
    · go_region
      go_wp2
      have h1 := (unhide HB4).put3 (.bool false) (.func (.func f) #[] #[]) (.nilFunc)
      exact bodyPost_ret (res_row_tmp Tryz.results87 _ _ B 121 #[.bool false, .func (.func f) #[] #[], .nilFunc] (0, 0) _ rfl h1.drew.res Tryz.underlying121 rfl rule3 (.bool true) rfl) rfl ⟨false, _, _, by first | (rw [unhide HT]; done) | (rw [unhide HT]; rfl), Or.inr ⟨_, rfl⟩, Or.inl rfl, fun _ => ⟨fun _ => ⟨f, rfl, (unhide HF).1, fun W x b hR hx hl => by rw [unhide HRC b]; exact (unhide HF).2 W x b hR hx hl⟩, fun h2 => by cases h2⟩, h1.drew.b⟩
    · go_region
      go_wp2
      have h1 := (unhide HB4).put3 (.bool false) (.func (.func f) #[] #[]) (.nilFunc)
      exact bodyPost_ret (res_row_tmp Tryz.results87 _ _ B 121 #[.bool false, .func (.func f) #[] #[], .nilFunc] (0, 0) _ rfl h1.drew.res Tryz.underlying121 rfl rule3 (.bool false) rfl) rfl ⟨false, _, _, by first | (rw [unhide HT]; done) | (rw [unhide HT]; rfl), Or.inr ⟨_, rfl⟩, Or.inl rfl, (fun h => by rw [unhide HT] at h; cases h), h1.drew.b⟩
  have hp' : plainT t = false := by simpa using hp
  by_cases hm : madeT t = true
  · have HU := hide (urule_made t hm w2)
    have HT : Hid (okT c t m = m) := by show _ = _; unfold okT; rw [if_pos (unhide HC), hm]; cases m <;> rfl
    obtain ⟨g, hg⟩ : ∃ g, (if t = 17 then 127 else 105) = g := ⟨_, rfl⟩
    have HG : Hid ((if c = 0 ∧ t = 17 then 127 else 105) = g) := by
      show _ = _
      rw [← hg]
      by_cases h : t = 17
      · rw [if_pos ⟨unhide HC, h⟩, if_pos h]
      · rw [if_neg (fun x => h x.2), if_neg h]
    rw [hg] at HU
    clear hp hp' hm hg
    go_enter Tryz.func87, Tryz.ntmps87
    go_wp2_with fail
    refine (unhide HU).mono ?_
    rintro e w3 ⟨rfl, hb3⟩
    have hA3 := (unhide HA2).call hb3
    have hB3 := (unhide HB).call hb3
    have hD := Blk.new hA3.b #[.bool true, .nilFunc, .func (.func g) #[] #[]] 121
    have hA4 := hA3.lit (.cells #[.bool true, .nilFunc, .func (.func g) #[] #[]] 121)
    have hB4 := hB3.lit (.cells #[.bool true, .nilFunc, .func (.func g) #[] #[]] 121)
    have hDB : w3.heap.size ≠ B := by have := hB3.lt; omega
    obtain ⟨D, eD⟩ : ∃ D, w3.heap.size = D := ⟨_, rfl⟩
    rw [eD] at hD hDB
    have HD3 := hide hD
    have HA3 := hide hA4
    have HB3 := hide hB4
    clear HU hA3 hB3 hD hA4 hB4 hb3 HB HA2 k0 k1 k2
    go_wp2_with fail
    obtain ⟨w4, hw4⟩ : ∃ w4, w3.alloc (.cells #[.bool true, .nilFunc, .func (.func g) #[] #[]] 121) = w4 := ⟨_, rfl⟩
    rw [hw4] at HD3 HA3 HB3 ⊢
    have hD := unhide HD3
    have hA4 := unhide HA3
    have hB4 := unhide HB3
    have j0 := hA4.cell 0 _ rfl
    have j1 := hA4.cell 1 _ rfl
    have j2 := hA4.cell 2 _ rfl
    have l0 := hD.cell 0 _ rfl
    have l1 := hD.cell 1 _ rfl
    have l2 := hD.cell 2 _ rfl
    have b0 := hB4.cell 0 _ rfl
    have b1 := hB4.cell 1 _ rfl
    have b2 := hB4.cell 2 _ rfl
    have f0 := hB4.frozen 0
    have f1 := hB4.frozen 1
    have f2 := hB4.frozen 2
    have HB4 := hide hB4
    clear hD hA4 hB4 HD3 HA3 HB3 hw4
    cases m
    · go_region
      go_wp2
      have h1 := (unhide HB4).put3 (.bool true) (.nilFunc) (.func (.func g) #[] #[])
      exact bodyPost_ret (res_row_tmp Tryz.results87 _ _ B 121 #[.bool true, .nilFunc, .func (.func g) #[] #[]] (0, 0) _ rfl h1.drew.res Tryz.underlying121 rfl rule3 (.bool false) rfl) rfl ⟨true, _, _, by first | (rw [unhide HT]; done) | (rw [unhide HT]; rfl), Or.inl rfl, Or.inr ⟨_, rfl⟩, (fun h => by rw [unhide HT] at h; cases h), h1.drew.b⟩
    · go_region
      go_wp2
      have h1 := (unhide HB4).put3 (.bool true) (.nilFunc) (.func (.func g) #[] #[])
      exact bodyPost_ret (res_row_tmp Tryz.results87 _ _ B 121 #[.bool true, .nilFunc, .func (.func g) #[] #[]] (0, 0) _ rfl h1.drew.res Tryz.underlying121 rfl rule3 (.bool true) rfl) rfl ⟨true, _, _, by first | (rw [unhide HT]; done) | (rw [unhide HT]; rfl), Or.inl rfl, Or.inr ⟨_, rfl⟩, fun _ => ⟨(fun h2 => by cases h2), (fun _ => by unfold KidsRule; rw [unhide HG])⟩, h1.drew.b⟩
  have hm' : madeT t = false := by simpa using hm
  have HU := hide (urule_none t hm' hp' w2)
  have HT : Hid (okT c t m = false) := by show _ = _; unfold okT; rw [if_pos (unhide HC), hm', hp']; rfl
  clear hp hp' hm hm'
  go_enter Tryz.func87, Tryz.ntmps87
  go_wp2_with fail
  refine (unhide HU).mono ?_
  rintro e w3 ⟨rfl, hb3⟩
  have hA3 := (unhide HA2).call hb3
  have hB3 := (unhide HB).call hb3
  have hD := Blk.new hA3.b #[.bool false, .nilFunc, .nilFunc] 121
  have hA4 := hA3.lit (.cells #[.bool false, .nilFunc, .nilFunc] 121)
  have hB4 := hB3.lit (.cells #[.bool false, .nilFunc, .nilFunc] 121)
  have hDB : w3.heap.size ≠ B := by have := hB3.lt; omega
  obtain ⟨D, eD⟩ : ∃ D, w3.heap.size = D := ⟨_, rfl⟩
  rw [eD] at hD hDB
  have HD3 := hide hD
  have HA3 := hide hA4
  have HB3 := hide hB4
  clear HU hA3 hB3 hD hA4 hB4 hb3 HB HA2 k0 k1 k2
  go_wp2_with fail
  obtain ⟨w4, hw4⟩ : ∃ w4, w3.alloc (.cells #[.bool false, .nilFunc, .nilFunc] 121) = w4 := ⟨_, rfl⟩
  rw [hw4] at HD3 HA3 HB3 ⊢
  have hD := unhide HD3
  have hA4 := unhide HA3
  have hB4 := unhide HB3
  have j0 := hA4.cell 0 _ rfl
  have j1 := hA4.cell 1 _ rfl
  have j2 := hA4.cell 2 _ rfl
  have l0 := hD.cell 0 _ rfl
  have l1 := hD.cell 1 _ rfl
  have l2 := hD.cell 2 _ rfl
  have b0 := hB4.cell 0 _ rfl
  have b1 := hB4.cell 1 _ rfl
  have b2 := hB4.cell 2 _ rfl
  have f0 := hB4.frozen 0
  have f1 := hB4.frozen 1
  have f2 := hB4.frozen 2
  have HB4 := hide hB4
  clear hD hA4 hB4 HD3 HA3 HB3 hw4
  cases m
  · go_region
    go_wp2
    have h1 := (unhide HB4).put3 (.bool false) (.nilFunc) (.nilFunc)
    exact bodyPost_ret (res_row_tmp Tryz.results87 _ _ B 121 #[.bool false, .nilFunc, .nilFunc] (0, 0) _ rfl h1.drew.res Tryz.underlying121 rfl rule3 (.bool false) rfl) rfl ⟨false, _, _, by first | (rw [unhide HT]; done) | (rw [unhide HT]; rfl), Or.inl rfl, Or.inl rfl, (fun h => by rw [unhide HT] at h; cases h), h1.drew.b⟩
  · go_region
    go_wp2
    have h1 := (unhide HB4).put3 (.bool false) (.nilFunc) (.nilFunc)
    exact bodyPost_ret (res_row_tmp Tryz.results87 _ _ B 121 #[.bool false, .nilFunc, .nilFunc] (0, 0) _ rfl h1.drew.res Tryz.underlying121 rfl rule3 (.bool false) rfl) rfl ⟨false, _, _, by first | (rw [unhide HT]; done) | (rw [unhide HT]; rfl), Or.inl rfl, Or.inl rfl, (fun h => by rw [unhide HT] at h; cases h), h1.drew.b⟩
end K
end Go.Proofs.YtcofnockikninabGreatDoor
