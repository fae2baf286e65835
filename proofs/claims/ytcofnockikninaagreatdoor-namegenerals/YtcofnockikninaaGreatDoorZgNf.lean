/- Parts of the walk. -/
import Derived.Test.YtcofnockikninaaGreatDoorZgKa
import Derived.Test.YtcofnockikninaaGreatDoorZgNum9
import Derived.Test.YtcofnockikninaaGreatDoorZgKc
import Derived.Test.YtcofnockikninaaGreatDoorZgKf
import Derived.Laws.EntriesVeiled
import Derived.Test.YtcofnockikninaaGreatDoorZgMA
set_option maxRecDepth 100000
set_option maxHeartbeats 16000000
namespace Go.Proofs.YtcofnockikninaaGreatDoor
open Go.RowKit
namespace K
def Tabs (w : World) : Prop := Lib.Utf8Tabs 0 1 w
theorem Tabs.below {a b : World} (h : Tabs a) (hb : Below a.heap.size a b) : Tabs b := tabs_below h hb
theorem valid12 : BFn Tabs 177 (rightP 12) := fun w x b hR hx hl => by
 have e : rightP 12 b = validB b := by unfold rightP validB; simp
 rw [e]
 exact valid_c w x b hR hx hl
theorem anyb4 : BFn Tabs 153 (rightP 4) := fun w x b hR hx hl => by
 rw [right4]
 exact anyb_c Tabs w x b hR hx hl
theorem res_row_tmp {P : Program} {fn : Func} {p u : Tmp} {ty : TypeId} (h : fn.results = #[.cell p ty, .tmp u]) (tmps : Array Value) (w : World) (g : Nat) (t : TypeId) (cs : Array Value) (fr : Nat × Nat) (d : TypeDesc)
  (hp : tmps.getD p undef = .pointer (some ⟨g, 0, none⟩)) (hg : w.heap[g]? = some (.cells cs t fr))
  (hu : P.underlying ty = some d) (hd : (match d with | .struct _ | .array _ _ => true | _ => false) = true) (hi : (P.info? ty).map (·.size) = some cs.size) (v : Value) (hv : tmps.getD u undef = v) :
  (results fn tmps).run P w = .ok (.tuple #[.agg cs, v]) w := by
 have hp' : tmps[p]?.getD undef = .pointer (some ⟨g, 0, none⟩) := by simpa using hp
 have hv' : tmps[u]?.getD undef = v := by simpa using hv
 simp [results, h, hp', hv', asAddr, run_loadVar_row w g t ty cs fr d hg hu hd hi]
theorem res_row_tmp2 {P : Program} {fn : Func} {p u u2 : Tmp} {ty : TypeId} (h : fn.results = #[.cell p ty, .tmp u, .tmp u2]) (tmps : Array Value) (w : World) (g : Nat) (t : TypeId) (cs : Array Value) (fr : Nat × Nat) (d : TypeDesc)
  (hp : tmps.getD p undef = .pointer (some ⟨g, 0, none⟩)) (hg : w.heap[g]? = some (.cells cs t fr))
  (hu : P.underlying ty = some d) (hd : (match d with | .struct _ | .array _ _ => true | _ => false) = true) (hi : (P.info? ty).map (·.size) = some cs.size) (v v2 : Value) (hv : tmps.getD u undef = v) (hv2 : tmps.getD u2 undef = v2) :
  (results fn tmps).run P w = .ok (.tuple #[.agg cs, v, v2]) w := by
 have hp' : tmps[p]?.getD undef = .pointer (some ⟨g, 0, none⟩) := by simpa using hp
 have hv' : tmps[u]?.getD undef = v := by simpa using hv
 have hv2' : tmps[u2]?.getD undef = v2 := by simpa using hv2
 simp [results, h, hp', hv', hv2', asAddr, run_loadVar_row w g t ty cs fr d hg hu hd hi]
structure Blk (w0 wr : World) (A : Nat) (cs : Array Value) (T : TypeId) : Prop where
 res : wr.heap[A]? = some (.cells cs T (0, 0))
 b : Below w0.heap.size w0 wr
 ge : w0.heap.size ≤ A
theorem Blk.new {w0 wr : World} (hb : Below w0.heap.size w0 wr) (cs : Array Value) (T : TypeId) : Blk w0 (wr.alloc (.cells cs T)) wr.heap.size cs T :=
 ⟨heap_alloc_new wr _, hb.alloc hb.size _, hb.size⟩
theorem blkN {w0 w : World} (hb : Below w0.heap.size w0 w) (cs : Array Value) (T : TypeId) : ∃ w1 X, w.alloc (.cells cs T) = w1 ∧ w.heap.size = X ∧ Blk w0 w1 X cs T := ⟨_, _, rfl, rfl, Blk.new hb cs T⟩
theorem Blk.lt {w0 wr : World} {A : Nat} {cs : Array Value} {T : TypeId} (h : Blk w0 wr A cs T) : A < wr.heap.size := (Array.getElem?_eq_some_iff.1 h.res).1
theorem Blk.call {w0 wr w' : World} {A : Nat} {cs : Array Value} {T : TypeId} (h : Blk w0 wr A cs T) (hb : Below wr.heap.size wr w') : Blk w0 w' A cs T :=
 ⟨by rw [hb.block A h.lt]; exact h.res, h.b.trans (hb.mono h.b.size), h.ge⟩
theorem Blk.drew {w0 wr : World} {A : Nat} {cs : Array Value} {T : TypeId} (h : Blk w0 wr A cs T) : Blk w0 wr.drew A cs T := ⟨h.res, h.b.drew, h.ge⟩
theorem Blk.lit {w0 wr : World} {A : Nat} {cs : Array Value} {T : TypeId} (h : Blk w0 wr A cs T) (o : Obj) : Blk w0 (wr.alloc o) A cs T := h.call ((Below.refl _ _).alloc (Nat.le_refl _) _)
theorem set_below {w0 wr : World} {A : Nat} (hb : Below w0.heap.size w0 wr) (ge : w0.heap.size ≤ A) (cs : Array Value) : Below w0.heap.size w0 (wr.setRow A cs) :=
 hb.grown (row := some A) ⟨rfl, rfl, rfl, by simp [World.setRow], fun i hi hne => by simp only [World.setRow]; rw [Array.getElem?_modify, if_neg (fun e => hne (by rw [e]))]⟩ hb.size (fun g hg => by cases hg; exact ge)
theorem Blk.set {w0 wr : World} {A : Nat} {cs : Array Value} {T : TypeId} (h : Blk w0 wr A cs T) (cs' : Array Value) : Blk w0 (wr.setRow A cs') A cs' T :=
 ⟨setRow_heap wr A _ _ T (0, 0) h.res, set_below h.b h.ge cs', h.ge⟩
theorem Blk.other {w0 wr : World} {A B : Nat} {cs : Array Value} {T : TypeId} (h : Blk w0 wr A cs T) (hB : w0.heap.size ≤ B) (hne : A ≠ B) (cs' : Array Value) : Blk w0 (wr.setRow B cs') A cs T :=
 ⟨by simp only [World.setRow]; rw [Array.getElem?_modify, if_neg (fun e => hne e.symm)]; exact h.res, set_below h.b hB cs', h.ge⟩
theorem Blk.cell {w0 wr : World} {A : Nat} {cs : Array Value} {T : TypeId} (h : Blk w0 wr A cs T) (k : Nat) (u : Value) (hu : cs[k]? = some u) : wr.cell? ⟨A, k, none⟩ = some u := by
 rw [cell_of_row wr A k cs T (0, 0) h.res]
 exact hu
theorem Blk.frozen {w0 wr : World} {A : Nat} {cs : Array Value} {T : TypeId} (h : Blk w0 wr A cs T) (k : Nat) : wr.frozen? ⟨A, k, none⟩ = false := frozen_of_row wr A k _ T h.res
theorem Blk.put {w0 wr : World} {A : Nat} {cs : List Value} {T : TypeId} (h : Blk w0 wr A cs.toArray T) (k : Nat) (hk : k < cs.length) (v : Value) : Blk w0 (wr.setCell ⟨A, k, none⟩ v) A (cs.set k v).toArray T := by
 have h1 : RowAt T wr A [] cs := by unfold RowAt; rw [List.append_nil]; exact h.res
 have h2 := h1.set k hk v
 unfold RowAt at h2
 rw [List.append_nil] at h2
 exact ⟨h2, below_set h.b h.b.size A h.ge k v, h.ge⟩
theorem Blk.put3 {w0 wr : World} {A : Nat} {a b c : Value} {T : TypeId} (h : Blk w0 wr A #[a, b, c] T) (x y z : Value) : Blk w0 (((wr.setCell ⟨A, 0, none⟩ x).setCell ⟨A, 1, none⟩ y).setCell ⟨A, 2, none⟩ z) A #[x, y, z] T :=
 (((Blk.put (cs := [a, b, c]) h 0 (by simp) x).put 1 (by simp) y).put 2 (by simp) z)
theorem one3 (a b c : Value) (ha : a.oneCell' = true) (hb : b.oneCell' = true) (hc : c.oneCell' = true) : (#[a, b, c] : Array Value).all (·.oneCell') = true := by simp [ha, hb, hc]
theorem rule3 : (Tryz.prog.info? 158).map (·.size) = some 3 := by kernel_rfl
theorem value5 : (Tryz.prog.info? 25).map (·.size) = some 5 := by kernel_rfl
def PlainRule (t : Nat) (v : Value) : Prop := ∃ f : Nat, v = .func (.func f) #[] #[] ∧ Enters Tryz.prog f ∧ BFn Tabs f (rightP t)
theorem urule_plain (t : Nat) (ht : plainT t = true) (w : World) : Calls Tryz.prog 155 #[.int .i64 (t : Int)] w fun e w' => ∃ fb, e = .returned (.tuple #[.agg #[.bool false, fb, .nilFunc], .bool true]) ∧ PlainRule t fb ∧ Below w.heap.size w w' := by
 have hc : t = 1 ∨ t = 2 ∨ t = 3 ∨ t = 4 ∨ t = 5 ∨ t = 6 ∨ t = 10 ∨ t = 12 ∨ t = 19 ∨ t = 22 ∨ t = 23 ∨ t = 24 := by
  unfold plainT at ht
  simp at ht
  omega
 clear ht
 have Hb : ∀ cs : Array Value, Below w.heap.size w (w.alloc (.cells cs 158)) := fun cs => (Below.refl _ _).alloc (Nat.le_refl _) _
 have HB := h_ Hb
 clear Hb
 rcases hc with rfl | rfl | rfl | rfl | rfl | rfl | rfl | rfl | rfl | rfl | rfl | rfl
 ·go_enter Tryz.func155, Tryz.ntmps155
  go_wp2
  exact bodyPost_ret (res_row_tmp Tryz.results155 _ _ w.heap.size 158 #[.bool false, .func (.func 172) #[] #[], .nilFunc] (0, 0) _ rfl (heap_alloc_new w _) Tryz.underlying158 rfl rule3 (.bool true) rfl) rfl ⟨_, rfl, ⟨172, rfl, enters_of Tryz.func172 (by kernel_rfl) rfl, isbool_c Tabs⟩, u_ HB _⟩
 ·go_enter Tryz.func155, Tryz.ntmps155
  go_wp2
  exact bodyPost_ret (res_row_tmp Tryz.results155 _ _ w.heap.size 158 #[.bool false, .func (.func 173) #[] #[], .nilFunc] (0, 0) _ rfl (heap_alloc_new w _) Tryz.underlying158 rfl rule3 (.bool true) rfl) rfl ⟨_, rfl, ⟨173, rfl, enters_of Tryz.func173 (by kernel_rfl) rfl, isint_c Tabs 2 (Or.inl rfl)⟩, u_ HB _⟩
 ·go_enter Tryz.func155, Tryz.ntmps155
  go_wp2
  exact bodyPost_ret (res_row_tmp Tryz.results155 _ _ w.heap.size 158 #[.bool false, .func (.func 174) #[] #[], .nilFunc] (0, 0) _ rfl (heap_alloc_new w _) Tryz.underlying158 rfl rule3 (.bool true) rfl) rfl ⟨_, rfl, ⟨174, rfl, enters_of Tryz.func174 (by kernel_rfl) rfl, isbits_c Tabs⟩, u_ HB _⟩
 ·go_enter Tryz.func155, Tryz.ntmps155
  go_wp2
  exact bodyPost_ret (res_row_tmp Tryz.results155 _ _ w.heap.size 158 #[.bool false, .func (.func 153) #[] #[], .nilFunc] (0, 0) _ rfl (heap_alloc_new w _) Tryz.underlying158 rfl rule3 (.bool true) rfl) rfl ⟨_, rfl, ⟨153, rfl, enters_of Tryz.func153 (by kernel_rfl) rfl, anyb4⟩, u_ HB _⟩
 ·go_enter Tryz.func155, Tryz.ntmps155
  go_wp2
  exact bodyPost_ret (res_row_tmp Tryz.results155 _ _ w.heap.size 158 #[.bool false, .func (.func 175) #[] #[], .nilFunc] (0, 0) _ rfl (heap_alloc_new w _) Tryz.underlying158 rfl rule3 (.bool true) rfl) rfl ⟨_, rfl, ⟨175, rfl, enters_of Tryz.func175 (by kernel_rfl) rfl, isnull_c Tabs⟩, u_ HB _⟩
 ·go_enter Tryz.func155, Tryz.ntmps155
  go_wp2
  exact bodyPost_ret (res_row_tmp Tryz.results155 _ _ w.heap.size 158 #[.bool false, .func (.func 176) #[] #[], .nilFunc] (0, 0) _ rfl (heap_alloc_new w _) Tryz.underlying158 rfl rule3 (.bool true) rfl) rfl ⟨_, rfl, ⟨176, rfl, enters_of Tryz.func176 (by kernel_rfl) rfl, isoid_c Tabs⟩, u_ HB _⟩
 ·go_enter Tryz.func155, Tryz.ntmps155
  go_wp2
  exact bodyPost_ret (res_row_tmp Tryz.results155 _ _ w.heap.size 158 #[.bool false, .func (.func 173) #[] #[], .nilFunc] (0, 0) _ rfl (heap_alloc_new w _) Tryz.underlying158 rfl rule3 (.bool true) rfl) rfl ⟨_, rfl, ⟨173, rfl, enters_of Tryz.func173 (by kernel_rfl) rfl, isint_c Tabs 10 (Or.inr rfl)⟩, u_ HB _⟩
 ·go_enter Tryz.func155, Tryz.ntmps155
  go_wp2
  exact bodyPost_ret (res_row_tmp Tryz.results155 _ _ w.heap.size 158 #[.bool false, .func (.func 177) #[] #[], .nilFunc] (0, 0) _ rfl (heap_alloc_new w _) Tryz.underlying158 rfl rule3 (.bool true) rfl) rfl ⟨_, rfl, ⟨177, rfl, enters_of Tryz.func177 (by kernel_rfl) rfl, valid12⟩, u_ HB _⟩
 ·go_enter Tryz.func155, Tryz.ntmps155
  go_wp2
  exact bodyPost_ret (res_row_tmp Tryz.results155 _ _ w.heap.size 158 #[.bool false, .func (.func 179) #[] #[], .nilFunc] (0, 0) _ rfl (heap_alloc_new w _) Tryz.underlying158 rfl rule3 (.bool true) rfl) rfl ⟨_, rfl, ⟨179, rfl, enters_of Tryz.func179 (by kernel_rfl) rfl, isprint_c Tabs⟩, u_ HB _⟩
 ·go_enter Tryz.func155, Tryz.ntmps155
  go_wp2
  exact bodyPost_ret (res_row_tmp Tryz.results155 _ _ w.heap.size 158 #[.bool false, .func (.func 180) #[] #[], .nilFunc] (0, 0) _ rfl (heap_alloc_new w _) Tryz.underlying158 rfl rule3 (.bool true) rfl) rfl ⟨_, rfl, ⟨180, rfl, enters_of Tryz.func180 (by kernel_rfl) rfl, isascii_c Tabs⟩, u_ HB _⟩
 ·go_enter Tryz.func155, Tryz.ntmps155
  go_wp2
  exact bodyPost_ret (res_row_tmp Tryz.results155 _ _ w.heap.size 158 #[.bool false, .func (.func 181) #[] #[], .nilFunc] (0, 0) _ rfl (heap_alloc_new w _) Tryz.underlying158 rfl rule3 (.bool true) rfl) rfl ⟨_, rfl, ⟨181, rfl, enters_of Tryz.func181 (by kernel_rfl) rfl, short_c Tabs⟩, u_ HB _⟩
 ·go_enter Tryz.func155, Tryz.ntmps155
  go_wp2
  exact bodyPost_ret (res_row_tmp Tryz.results155 _ _ w.heap.size 158 #[.bool false, .func (.func 182) #[] #[], .nilFunc] (0, 0) _ rfl (heap_alloc_new w _) Tryz.underlying158 rfl rule3 (.bool true) rfl) rfl ⟨_, rfl, ⟨182, rfl, enters_of Tryz.func182 (by kernel_rfl) rfl, long_c Tabs⟩, u_ HB _⟩
theorem urule_made (t : Nat) (ht : madeT t = true) (w : World) : Calls Tryz.prog 155 #[.int .i64 (t : Int)] w fun e w' => e = .returned (.tuple #[.agg #[.bool true, .nilFunc, .func (.func (if t = 17 then 178 else 154)) #[] #[]], .bool true]) ∧ Below w.heap.size w w' := by
 have hc : t = 16 ∨ t = 17 := by
  unfold madeT at ht
  simp at ht
  omega
 clear ht
 have Hb : ∀ cs : Array Value, Below w.heap.size w (w.alloc (.cells cs 158)) := fun cs => (Below.refl _ _).alloc (Nat.le_refl _) _
 have HB := h_ Hb
 clear Hb
 rcases hc with rfl | rfl
 ·go_enter Tryz.func155, Tryz.ntmps155
  go_wp2
  exact bodyPost_ret (res_row_tmp Tryz.results155 _ _ w.heap.size 158 #[.bool true, .nilFunc, .func (.func 154) #[] #[]] (0, 0) _ rfl (heap_alloc_new w _) Tryz.underlying158 rfl rule3 (.bool true) rfl) rfl ⟨rfl, u_ HB _⟩
 ·go_enter Tryz.func155, Tryz.ntmps155
  go_wp2
  exact bodyPost_ret (res_row_tmp Tryz.results155 _ _ w.heap.size 158 #[.bool true, .nilFunc, .func (.func 178) #[] #[]] (0, 0) _ rfl (heap_alloc_new w _) Tryz.underlying158 rfl rule3 (.bool true) rfl) rfl ⟨rfl, u_ HB _⟩
theorem urule_none (t : Nat) (h1 : madeT t = false) (h2 : plainT t = false) (w : World) : Calls Tryz.prog 155 #[.int .i64 (t : Int)] w fun e w' => e = .returned (.tuple #[.agg #[.bool false, .nilFunc, .nilFunc], .bool false]) ∧ Below w.heap.size w w' := by
 have hc : ¬ (t = 1 ∨ t = 2 ∨ t = 3 ∨ t = 4 ∨ t = 5 ∨ t = 6 ∨ t = 10 ∨ t = 12 ∨ t = 19 ∨ t = 22 ∨ t = 23 ∨ t = 24 ∨ t = 16 ∨ t = 17) := by
  unfold plainT at h2
  unfold madeT at h1
  simp at h1 h2
  omega
 clear h1 h2
 have Hb : ∀ cs : Array Value, Below w.heap.size w (w.alloc (.cells cs 158)) := fun cs => (Below.refl _ _).alloc (Nat.le_refl _) _
 have HB := h_ Hb
 clear Hb
 have d1 : ((t : Int) == 1) = false := by simp; omega
 have d2 : ((t : Int) == 2) = false := by simp; omega
 have d3 : ((t : Int) == 3) = false := by simp; omega
 have d4 : ((t : Int) == 4) = false := by simp; omega
 have d5 : ((t : Int) == 5) = false := by simp; omega
 have d6 : ((t : Int) == 6) = false := by simp; omega
 have d10 : ((t : Int) == 10) = false := by simp; omega
 have d12 : ((t : Int) == 12) = false := by simp; omega
 have d19 : ((t : Int) == 19) = false := by simp; omega
 have d22 : ((t : Int) == 22) = false := by simp; omega
 have d23 : ((t : Int) == 23) = false := by simp; omega
 have d24 : ((t : Int) == 24) = false := by simp; omega
 have d16 : ((t : Int) == 16) = false := by simp; omega
 have d17 : ((t : Int) == 17) = false := by simp; omega
 clear hc
 go_enter Tryz.func155, Tryz.ntmps155
 go_wp2
 exact bodyPost_ret (res_row_tmp Tryz.results155 _ _ w.heap.size 158 #[.bool false, .nilFunc, .nilFunc] (0, 0) _ rfl (heap_alloc_new w _) Tryz.underlying158 rfl rule3 (.bool false) rfl) rfl ⟨rfl, u_ HB _⟩
def okT (c t : Nat) (m : Bool) : Bool := if c = 0 then (madeT t || plainT t) && (madeT t == m) else true
def rightC (c t : Nat) (b : Bs) : Bool := if c = 0 then rightP t b else true
def BytesRule (c t : Nat) (v : Value) : Prop := ∃ f : Nat, v = .func (.func f) #[] #[] ∧ Enters Tryz.prog f ∧ BFn Tabs f (rightC c t)
def KidsRule (c t : Nat) (v : Value) : Prop := v = .func (.func (if c = 0 ∧ t = 17 then 178 else 154)) #[] #[]
def RuleTold (c t : Nat) (m : Bool) (fb fk : Value) : Prop := okT c t m = true → (m = false → BytesRule c t fb) ∧ (m = true → KidsRule c t fk)
def FnV (v : Value) : Prop := v = .nilFunc ∨ ∃ f, v = .func (.func f) #[] #[]
theorem rule_c (c t : Nat) (m : Bool) (s1 s2 : Option Addr) (n1 c1 n2 c2 : Nat) (w : World) :
  Calls Tryz.prog 124 #[.agg #[.int .i64 (c : Int), .int .i64 (t : Int), .bool m, .slice s1 n1 c1, .slice s2 n2 c2]] w fun e w' => ∃ mm fb fk, e = .returned (.tuple #[.agg #[.bool mm, fb, fk], .bool (okT c t m)]) ∧ FnV fb ∧ FnV fk ∧ RuleTold c t m fb fk ∧ Below w.heap.size w w' := by
 have hA := Blk.new (Below.refl w.heap.size w) #[.int .i64 (c : Int), .int .i64 (t : Int), .bool m, .slice s1 n1 c1, .slice s2 n2 c2] 25
 obtain ⟨w1, hw1⟩ := exq (w.alloc (.cells #[.int .i64 (c : Int), .int .i64 (t : Int), .bool m, .slice s1 n1 c1, .slice s2 n2 c2] 25))
 rw [hw1] at hA
 have hB := Blk.new hA.b #[.bool false, .nilFunc, .nilFunc] 158
 have hA2 := hA.lit (.cells #[.bool false, .nilFunc, .nilFunc] 158)
 obtain ⟨w2, hw2⟩ := exq (w1.alloc (.cells #[.bool false, .nilFunc, .nilFunc] 158))
 rw [hw2] at hB hA2
 obtain ⟨A, eA⟩ := exq w.heap.size
 obtain ⟨B, eB⟩ := exq w1.heap.size
 have hAB : A ≠ B := by have := hA.lt; omega
 rw [eA] at hA2
 rw [eB] at hB
 have k0 := hA2.cell 0 _ rfl
 have k1 := hA2.cell 1 _ rfl
 have k2 := hA2.cell 2 _ rfl
 have HA2 := h_ hA2
 have HB := h_ hB
 have HE := h_ eA
 clear hA hA2 hB
 by_cases hc : c = 0
 case neg =>
  have d0 : ((c : Int) == 0) = false := by simp; omega
  have d0' : ((c : Int) != 0) = true := by simp; omega
  have HT : Hid (okT c t m = true) := by show _ = _; unfold okT; rw [if_neg hc]
  have HR : Hid (RuleTold c t m (.func (.func 153) #[] #[]) (.func (.func 154) #[] #[])) := fun _ => ⟨fun _ => ⟨153, rfl, enters_of Tryz.func153 (by kernel_rfl) rfl, fun W x b hR hx hl => by
   have e : rightC c t b = true := by unfold rightC; rw [if_neg hc]
   rw [e]
   exact anyb_c Tabs W x b hR hx hl⟩, fun _ => by unfold KidsRule; rw [if_neg (fun h => hc h.1)]⟩
  clear hc
  go_enter Tryz.func124, Tryz.ntmps124
  have HO := h_ (one3 (.bool m) (.func (.func 153) #[] #[]) (.func (.func 154) #[] #[]) rfl rfl rfl)
  go_wp2_with (refine wpList_store_row rfl 158 _ _ rfl B #[.bool m, .func (.func 153) #[] #[], .func (.func 154) #[] #[]] rfl rfl 158 _ HB.res rule3 rfl (u_ HO) ?_)
  have h1 := HB.set #[.bool m, .func (.func 153) #[] #[], .func (.func 154) #[] #[]]
  exact bodyPost_ret (res_row_tmp Tryz.results124 _ _ B 158 #[.bool m, .func (.func 153) #[] #[], .func (.func 154) #[] #[]] (0, 0) _ rfl h1.res Tryz.underlying158 rfl rule3 (.bool true) rfl) rfl ⟨m, _, _, by rw [u_ HT], Or.inr ⟨_, rfl⟩, Or.inr ⟨_, rfl⟩, u_ HR, h1.b⟩
 have d0 : ((c : Int) == 0) = true := by simp; omega
 have d0' : ((c : Int) != 0) = false := by simp; omega
 have HC := h_ hc
 clear hc
 by_cases hp : plainT t = true
 ·have hm : madeT t = false := by
   unfold plainT at hp
   unfold madeT
   simp at hp ⊢
   omega
  have HU := h_ (urule_plain t hp w2)
  have HT : Hid (okT c t m = !m) := by show _ = _; unfold okT; rw [if_pos (u_ HC), hp, hm]; cases m <;> rfl
  have HRC : Hid (∀ b, rightC c t b = rightP t b) := fun b => by unfold rightC; rw [if_pos (u_ HC)]
  clear hp hm
  go_enter Tryz.func124, Tryz.ntmps124
  go_wp2_with fail
  refine HU.mono ?_
  rintro e w3 ⟨fb, rfl, ⟨f, rfl, hen, hbf⟩, hb3⟩
  have HF := h_ (And.intro hen hbf)
  clear hen hbf
  have hA3 := HA2.call hb3
  have hB3 := HB.call hb3
  have hD := Blk.new hA3.b #[.bool false, .func (.func f) #[] #[], .nilFunc] 158
  have hA4 := hA3.lit (.cells #[.bool false, .func (.func f) #[] #[], .nilFunc] 158)
  have hB4 := hB3.lit (.cells #[.bool false, .func (.func f) #[] #[], .nilFunc] 158)
  have hDB : w3.heap.size ≠ B := by have := hB3.lt; omega
  obtain ⟨D, eD⟩ := exq w3.heap.size
  rw [eD] at hD hDB
  have HD3 := h_ hD
  have HA3 := h_ hA4
  have HB3 := h_ hB4
  clear HU hA3 hB3 hD hA4 hB4 hb3 HB HA2 k0 k1 k2
  go_wp2_with fail
  obtain ⟨w4, hw4⟩ := exq (w3.alloc (.cells #[.bool false, .func (.func f) #[] #[], .nilFunc] 158))
  rw [hw4] at HD3 HA3 HB3 ⊢
  have hD := u_ HD3
  have hA4 := u_ HA3
  have hB4 := u_ HB3
  have j0 := hA4.cell 0 _ rfl
  have j1 := hA4.cell 1 _ rfl
  have j2 := hA4.cell 2 _ rfl
  have l0 := hD.cell 0 _ rfl
  have l1 := hD.cell 1 _ rfl
  have l2 := hD.cell 2 _ rfl
  have b0 := hB4.cell 0 _ rfl
  have b1 := hB4.cell 1 _ rfl
  have b2 := hB4.cell 2 _ rfl
  have f0 := hB4.frozen 0
  have f1 := hB4.frozen 1
  have f2 := hB4.frozen 2
  have HB4 := h_ hB4
  clear hD hA4 hB4 HD3 HA3 HB3 hw4
  cases m
  ·go_region
   go_wp2
   have h1 := HB4.put3 (.bool false) (.func (.func f) #[] #[]) (.nilFunc)
   exact bodyPost_ret (res_row_tmp Tryz.results124 _ _ B 158 #[.bool false, .func (.func f) #[] #[], .nilFunc] (0, 0) _ rfl h1.drew.res Tryz.underlying158 rfl rule3 (.bool true) rfl) rfl ⟨false, _, _, by first | (rw [u_ HT]; done) | (rw [u_ HT]; rfl), Or.inr ⟨_, rfl⟩, Or.inl rfl, fun _ => ⟨fun _ => ⟨f, rfl, HF.1, fun W x b hR hx hl => by rw [u_ HRC b]; exact HF.2 W x b hR hx hl⟩, fun h2 => by cases h2⟩, h1.drew.b⟩
  ·go_region
   go_wp2
   have h1 := HB4.put3 (.bool false) (.func (.func f) #[] #[]) (.nilFunc)
   exact bodyPost_ret (res_row_tmp Tryz.results124 _ _ B 158 #[.bool false, .func (.func f) #[] #[], .nilFunc] (0, 0) _ rfl h1.drew.res Tryz.underlying158 rfl rule3 (.bool false) rfl) rfl ⟨false, _, _, by first | (rw [u_ HT]; done) | (rw [u_ HT]; rfl), Or.inr ⟨_, rfl⟩, Or.inl rfl, (fun h => by rw [u_ HT] at h; cases h), h1.drew.b⟩
 have hp' : plainT t = false := by simpa using hp
 by_cases hm : madeT t = true
 ·have HU := h_ (urule_made t hm w2)
  have HT : Hid (okT c t m = m) := by show _ = _; unfold okT; rw [if_pos (u_ HC), hm]; cases m <;> rfl
  obtain ⟨g, hg⟩ := exq (if t = 17 then 178 else 154)
  have HG : Hid ((if c = 0 ∧ t = 17 then 178 else 154) = g) := by
   show _ = _
   rw [← hg]
   by_cases h : t = 17
   ·rw [if_pos ⟨u_ HC, h⟩, if_pos h]
   ·rw [if_neg (fun x => h x.2), if_neg h]
  rw [hg] at HU
  clear hp hp' hm hg
  go_enter Tryz.func124, Tryz.ntmps124
  go_wp2_with fail
  refine HU.mono ?_
  rintro e w3 ⟨rfl, hb3⟩
  have hA3 := HA2.call hb3
  have hB3 := HB.call hb3
  have hD := Blk.new hA3.b #[.bool true, .nilFunc, .func (.func g) #[] #[]] 158
  have hA4 := hA3.lit (.cells #[.bool true, .nilFunc, .func (.func g) #[] #[]] 158)
  have hB4 := hB3.lit (.cells #[.bool true, .nilFunc, .func (.func g) #[] #[]] 158)
  have hDB : w3.heap.size ≠ B := by have := hB3.lt; omega
  obtain ⟨D, eD⟩ := exq w3.heap.size
  rw [eD] at hD hDB
  have HD3 := h_ hD
  have HA3 := h_ hA4
  have HB3 := h_ hB4
  clear HU hA3 hB3 hD hA4 hB4 hb3 HB HA2 k0 k1 k2
  go_wp2_with fail
  obtain ⟨w4, hw4⟩ := exq (w3.alloc (.cells #[.bool true, .nilFunc, .func (.func g) #[] #[]] 158))
  rw [hw4] at HD3 HA3 HB3 ⊢
  have hD := u_ HD3
  have hA4 := u_ HA3
  have hB4 := u_ HB3
  have j0 := hA4.cell 0 _ rfl
  have j1 := hA4.cell 1 _ rfl
  have j2 := hA4.cell 2 _ rfl
  have l0 := hD.cell 0 _ rfl
  have l1 := hD.cell 1 _ rfl
  have l2 := hD.cell 2 _ rfl
  have b0 := hB4.cell 0 _ rfl
  have b1 := hB4.cell 1 _ rfl
  have b2 := hB4.cell 2 _ rfl
  have f0 := hB4.frozen 0
  have f1 := hB4.frozen 1
  have f2 := hB4.frozen 2
  have HB4 := h_ hB4
  clear hD hA4 hB4 HD3 HA3 HB3 hw4
  cases m
  ·go_region
   go_wp2
   have h1 := HB4.put3 (.bool true) (.nilFunc) (.func (.func g) #[] #[])
   exact bodyPost_ret (res_row_tmp Tryz.results124 _ _ B 158 #[.bool true, .nilFunc, .func (.func g) #[] #[]] (0, 0) _ rfl h1.drew.res Tryz.underlying158 rfl rule3 (.bool false) rfl) rfl ⟨true, _, _, by first | (rw [u_ HT]; done) | (rw [u_ HT]; rfl), Or.inl rfl, Or.inr ⟨_, rfl⟩, (fun h => by rw [u_ HT] at h; cases h), h1.drew.b⟩
  ·go_region
   go_wp2
   have h1 := HB4.put3 (.bool true) (.nilFunc) (.func (.func g) #[] #[])
   exact bodyPost_ret (res_row_tmp Tryz.results124 _ _ B 158 #[.bool true, .nilFunc, .func (.func g) #[] #[]] (0, 0) _ rfl h1.drew.res Tryz.underlying158 rfl rule3 (.bool true) rfl) rfl ⟨true, _, _, by first | (rw [u_ HT]; done) | (rw [u_ HT]; rfl), Or.inl rfl, Or.inr ⟨_, rfl⟩, fun _ => ⟨(fun h2 => by cases h2), (fun _ => by unfold KidsRule; rw [u_ HG])⟩, h1.drew.b⟩
 have hm' : madeT t = false := by simpa using hm
 have HU := h_ (urule_none t hm' hp' w2)
 have HT : Hid (okT c t m = false) := by show _ = _; unfold okT; rw [if_pos (u_ HC), hm', hp']; rfl
 clear hp hp' hm hm'
 go_enter Tryz.func124, Tryz.ntmps124
 go_wp2_with fail
 refine HU.mono ?_
 rintro e w3 ⟨rfl, hb3⟩
 have hA3 := HA2.call hb3
 have hB3 := HB.call hb3
 have hD := Blk.new hA3.b #[.bool false, .nilFunc, .nilFunc] 158
 have hA4 := hA3.lit (.cells #[.bool false, .nilFunc, .nilFunc] 158)
 have hB4 := hB3.lit (.cells #[.bool false, .nilFunc, .nilFunc] 158)
 have hDB : w3.heap.size ≠ B := by have := hB3.lt; omega
 obtain ⟨D, eD⟩ := exq w3.heap.size
 rw [eD] at hD hDB
 have HD3 := h_ hD
 have HA3 := h_ hA4
 have HB3 := h_ hB4
 clear HU hA3 hB3 hD hA4 hB4 hb3 HB HA2 k0 k1 k2
 go_wp2_with fail
 obtain ⟨w4, hw4⟩ := exq (w3.alloc (.cells #[.bool false, .nilFunc, .nilFunc] 158))
 rw [hw4] at HD3 HA3 HB3 ⊢
 have hD := u_ HD3
 have hA4 := u_ HA3
 have hB4 := u_ HB3
 have j0 := hA4.cell 0 _ rfl
 have j1 := hA4.cell 1 _ rfl
 have j2 := hA4.cell 2 _ rfl
 have l0 := hD.cell 0 _ rfl
 have l1 := hD.cell 1 _ rfl
 have l2 := hD.cell 2 _ rfl
 have b0 := hB4.cell 0 _ rfl
 have b1 := hB4.cell 1 _ rfl
 have b2 := hB4.cell 2 _ rfl
 have f0 := hB4.frozen 0
 have f1 := hB4.frozen 1
 have f2 := hB4.frozen 2
 have HB4 := h_ hB4
 clear hD hA4 hB4 HD3 HA3 HB3 hw4
 cases m
 ·go_region
  go_wp2
  have h1 := HB4.put3 (.bool false) (.nilFunc) (.nilFunc)
  exact bodyPost_ret (res_row_tmp Tryz.results124 _ _ B 158 #[.bool false, .nilFunc, .nilFunc] (0, 0) _ rfl h1.drew.res Tryz.underlying158 rfl rule3 (.bool false) rfl) rfl ⟨false, _, _, by first | (rw [u_ HT]; done) | (rw [u_ HT]; rfl), Or.inl rfl, Or.inl rfl, (fun h => by rw [u_ HT] at h; cases h), h1.drew.b⟩
 ·go_region
  go_wp2
  have h1 := HB4.put3 (.bool false) (.nilFunc) (.nilFunc)
  exact bodyPost_ret (res_row_tmp Tryz.results124 _ _ B 158 #[.bool false, .nilFunc, .nilFunc] (0, 0) _ rfl h1.drew.res Tryz.underlying158 rfl rule3 (.bool false) rfl) rfl ⟨false, _, _, by first | (rw [u_ HT]; done) | (rw [u_ HT]; rfl), Or.inl rfl, Or.inl rfl, (fun h => by rw [u_ HT] at h; cases h), h1.drew.b⟩
end K
def nv (n : Nat) : Value := .int .i64 (n : Int)
def twos (l : List Nat) : Bs := l.flatMap fun n => [dig (n / 10), dig (n % 10)]
theorem take_snocN {l : List Nat} {i : Nat} (hi : i < l.length) : l.take (i + 1) = l.take i ++ [l.getD i 0] := by
 rw [List.take_add_one, List.getElem?_eq_getElem hi, List.getD_eq_getElem?_getD, List.getElem?_eq_getElem hi]; rfl
namespace N
theorem ValsAt.int {w : World} {sp : Option Addr} {N c : Nat} {l : List Nat} (h : ValsAt w (.slice sp N c) (l.map nv)) (k : Nat) (hk : k < l.length) : ∃ ba oa, sp = some ⟨ba, oa, none⟩ ∧ w.cell? ⟨ba, oa + k, none⟩ = some (.int .i64 (l.getD k 0 : Int)) := by
 obtain ⟨b, o, c2, e, _, _, hc⟩ := ValsAt.cell h (fun e => by rw [List.map_eq_nil_iff] at e; rw [e] at hk; simp at hk)
 simp only [Value.slice.injEq] at e
 refine ⟨b, o, e.1, ?_⟩
 rw [hc k (by simpa using hk), List.getD_eq_getElem?_getD, List.getElem?_map, List.getElem?_eq_getElem hk]
 simp [nv, List.getD_eq_getElem?_getD, hk]
end N
def timeDV (T y m d : Nat) : DV :=
 if y < 2050 then .mk 0 23 false (twos [y % 100, m, d, T % 86400 / 3600, T % 86400 / 60 % 60, T % 86400 % 60] ++ [90]) []
 else .mk 0 24 false (twos [y / 100, y % 100, m, d, T % 86400 / 3600, T % 86400 / 60 % 60, T % 86400 % 60] ++ [90]) []
def TimeV (t : Int) (er : Nat) (V : DV) : Prop :=
 ((t < 0 ∨ 253402300799 < t) ∧ er = 32 ∧ V = .mk 0 0 false [] []) ∨ (0 ≤ t ∧ t ≤ 253402300799 ∧ er = 0 ∧ ∃ y m d, DateIs (t.toNat / 86400) y m d ∧ V = timeDV t.toNat y m d)
theorem TimeV.one {t : Int} {er er' : Nat} {V V' : DV} (h : TimeV t er V) (k : TimeV t er' V') : er = er' ∧ V = V' := by
 rcases h with ⟨h1, h2, h3⟩ | ⟨h1, h2, h3, y, m, d, h4, h5⟩ <;> rcases k with ⟨k1, k2, k3⟩ | ⟨k1, k2, k3, y', m', d', k4, k5⟩
 ·exact ⟨h2.trans k2.symm, h3.trans k3.symm⟩
 ·omega
 ·omega
 ·obtain ⟨rfl, rfl, rfl⟩ := h4.one k4
  exact ⟨h3.trans k3.symm, h5.trans k5.symm⟩
namespace N
open K
theorem zero_val (S : Nat → Prop) (w : World) : ValAt S w [.int .i64 0, .int .i64 0, .bool false, .slice none 0 0, .slice none 0 0] (.mk 0 0 false [] []) :=
 ⟨1, .slice none 0 0, none, 0, rfl, bytes_nil w, fun h => absurd rfl h, ⟨by simp [DV.bytes], by simp [DV.kids]⟩, by simp [DV.kids], fun _ => rfl, fun h => absurd rfl h⟩
end N
namespace N
open K
def seven (f : Nat → Nat) : List Value := (List.range 7).map fun k => .int .i64 (f k : Int)
theorem seven_len (f : Nat → Nat) : (seven f).length = 7 := by simp [seven]
theorem seven_get (f : Nat → Nat) {k : Nat} (hk : k < 7) : (seven f).getD k undef = .int .i64 (f k : Int) := by
 rw [List.getD_eq_getElem?_getD, List.getElem?_eq_getElem (by rw [seven_len]; exact hk)]
 simp [seven]
theorem seven_set (f g : Nat → Nat) {k : Nat} (h : ∀ j, j ≠ k → g j = f j) : (seven f).set k (.int .i64 (g k : Int)) = seven g := by
 refine List.ext_getElem (by simp [seven]) fun j h1 h2 => ?_
 rw [List.getElem_set]
 split
 ·rename_i e
  subst e
  simp [seven]
 ·rename_i e
  simp [seven, h j (fun e2 => e e2.symm)]
def sevTo (b : Bs) (i k : Nat) : Nat := if k < i then twoAt b (2 * k) else 0
theorem cent_c (w : World) (s : ByteArray) (A : Bool) (hA : Op.bytesLess s.toList [53, 48] = A) : Calls Tryz.prog 46 #[.string s] w fun e w' => e = .returned (.string (if A = true then st [50, 48] else st [49, 57])) ∧ w' = w := by
 cases A <;> (go_enter Tryz.func46, Tryz.ntmps46; go_wp2; go_ret; exact ⟨rfl, rfl⟩)
theorem moment7_c (w : World) (s : ByteArray) (hs : 14 ≤ s.size) (hs2 : s.size ≤ 100) (hd : ∀ i, i < 14 → isDig ((bs s).getD i 0) = true) :
  Calls Tryz.prog 47 #[.string s] w fun e w' => e = .returned (.agg (seven fun k => twoAt (bs s) (2 * k)).toArray) ∧ Below w.heap.size w w' := by
 obtain ⟨w1, hw1⟩ := exq (w.alloc (.cells #[.int .i64 0, .int .i64 0, .int .i64 0, .int .i64 0, .int .i64 0, .int .i64 0, .int .i64 0] 91))
 obtain ⟨w2, hw2⟩ := exq (w1.alloc (.cells #[.int .i64 0, .int .i64 0, .int .i64 0, .int .i64 0, .int .i64 0, .int .i64 0, .int .i64 0] 91))
 obtain ⟨R, hR⟩ := exq w.heap.size
 obtain ⟨O, hO⟩ := exq w1.heap.size
 have e0 : (#[.int .i64 0, .int .i64 0, .int .i64 0, .int .i64 0, .int .i64 0, .int .i64 0, .int .i64 0] : Array Value) = (seven (sevTo (bs s) 0)).toArray := by simp [seven, sevTo, List.range, List.range.loop]
 have HR1 : Hid (Blk w w1 R (seven (sevTo (bs s) 0)).toArray 91) := by rw [← hw1, ← hR, e0]; exact Blk.new (Below.refl _ _) _ _
 have HR2 : Hid (Blk w w2 R (seven (sevTo (bs s) 0)).toArray 91) := by rw [← hw2]; exact HR1.lit _
 have HO2 : Hid (Blk w w2 O (seven (sevTo (bs s) 0)).toArray 91) := by rw [← hw2, ← hO, e0]; exact Blk.new HR1.b _ _
 have HRO : Hid (R ≠ O) := by have := HR1.lt; show _ ≠ _; omega
 have HD : Hid (∀ k, k < 14 → ∃ p, ((bs s).getD k 0).toNat = p ∧ 48 ≤ p ∧ p ≤ 57) := fun k hk => by
  have := hd k hk
  simp only [isDig, Bool.and_eq_true, decide_eq_true_eq] at this
  exact ⟨_, rfl, this.1, this.2⟩
 clear hd e0
 go_enter Tryz.func47, Tryz.ntmps47
 go_wp2
 clear hw1 hw2 hO HR1
 have HRe := h_ hR
 clear hR
 go_loopw [5] (fun ii wr => ∃ i : Nat, i ≤ 7 ∧ ii = .int .i64 (i : Int) ∧ Hid (Blk w wr R (seven (sevTo (bs s) 0)).toArray 91) ∧ Hid (Blk w wr O (seven (sevTo (bs s) i)).toArray 91)) (fun ii _ => 7 - (intOf ii).toNat)
 case atStart => exact ⟨0, by omega, rfl, HR2, HO2⟩
 case round =>
  obtain ⟨i, hi, rfl, HR, HO⟩ := hrel
  clear HR2 HO2
  by_cases hlt : i < 7
  ·obtain ⟨d1, d1n⟩ := ltVL i 7 7
   have i0 : (0 : Int) ≤ (i : Int) := by omega
   have i1 : (i : Int) < 7 := by omega
   obtain ⟨F, hF⟩ := exq (2 * i)
   obtain ⟨E, hE⟩ := exq (F + 1)
   have eF : (2 : Int) * (i : Int) = (F : Int) := by omega
   have eE : (F : Int) + 1 = (E : Int) := by omega
   have uF : IntKind.i64.wrap (F : Int) = (F : Int) := IntWalk.i64_in _ (by omega)
   have uE : IntKind.i64.wrap (E : Int) = (E : Int) := IntWalk.i64_in _ (by omega)
   obtain ⟨p, hp, hp1, hp2⟩ := u_ HD F (by omega)
   obtain ⟨q, hq, hq1, hq2⟩ := u_ HD E (by omega)
   have ixF : ∀ w, (Instr.index 9 (.string s) (.int .i64 (F : Int))).run Tryz.prog w = .ok (.int .u8 (p : Int)) w := fun w => index_str s F (by omega) p hp w
   have ixE : ∀ w, (Instr.index 9 (.string s) (.int .i64 (E : Int))).run Tryz.prog w = .ok (.int .u8 (q : Int)) w := fun w => index_str s E (by omega) q hq w
   obtain ⟨P, hP⟩ := exq (p - 48)
   obtain ⟨Q, hQ⟩ := exq (q - 48)
   obtain ⟨N, hN⟩ := exq (10 * P + Q)
   have eP : (p : Int) - 48 = (P : Int) := by omega
   have eQ : (q : Int) - 48 = (Q : Int) := by omega
   have eN : (10 : Int) * (P : Int) + (Q : Int) = (N : Int) := by omega
   have uP : IntKind.u8.wrap (P : Int) = (P : Int) := by rw [IntKind.wrap_u8']; omega
   have uQ : IntKind.u8.wrap (Q : Int) = (Q : Int) := by rw [IntKind.wrap_u8']; omega
   have uP2 : IntKind.i64.wrap (P : Int) = (P : Int) := IntWalk.i64_in _ (by omega)
   have uQ2 : IntKind.i64.wrap (Q : Int) = (Q : Int) := IntWalk.i64_in _ (by omega)
   have uN : IntKind.i64.wrap (N : Int) = (N : Int) := IntWalk.i64_in _ (by omega)
   have uPP : IntKind.i64.wrap ((10 : Int) * (P : Int)) = (10 : Int) * (P : Int) := IntWalk.i64_in _ (by omega)
   have ck : wr.cell? ⟨O, i, none⟩ = some (.int .i64 (sevTo (bs s) i i : Int)) := HO.cell i _ (by have := seven_get (sevTo (bs s) i) hlt; rw [List.getD_eq_getElem?_getD, List.getElem?_eq_getElem (by rw [seven_len]; exact hlt), Option.getD_some] at this; rw [List.getElem?_toArray, List.getElem?_eq_getElem (by rw [seven_len]; exact hlt), this])
   have fk : wr.frozen? ⟨O, i, none⟩ = false := HO.frozen i
   have HO3 : Hid (Blk w (wr.setCell ⟨O, i, none⟩ (.int .i64 (N : Int))) O (seven (sevTo (bs s) (i + 1))).toArray 91) := by
    have h1 := HO.put i (by rw [seven_len]; exact hlt) (.int .i64 (N : Int))
    have e : (seven (sevTo (bs s) i)).set i (.int .i64 (N : Int)) = seven (sevTo (bs s) (i + 1)) := by
     have h2 := seven_set (sevTo (bs s) i) (sevTo (bs s) (i + 1)) (k := i) (fun j hj => by
      unfold sevTo
      by_cases h : j < i
      ·rw [if_pos (by omega), if_pos h]
      ·rw [if_neg (by omega), if_neg h])
     have e3 : sevTo (bs s) (i + 1) i = N := by
      unfold sevTo twoAt
      rw [if_pos (by omega), hF, hE, hp, hq, hP, hQ, hN]
     rw [e3] at h2
     exact h2
    rw [e] at h1
    exact h1
   have HR3 : Hid (Blk w (wr.setCell ⟨O, i, none⟩ (.int .i64 (N : Int))) R (seven (sevTo (bs s) 0)).toArray 91) := by
    refine ⟨?_, HO3.b, HR.ge⟩
    rw [heap_setCell_other _ _ _ _ (u_ HRO)]
    exact HR.res
   clear hF hE hp hq hP hQ hN HR HO
   go_wp2
   go_region
   clear ixF ixE ck fk
   have HO4 := h_ HO3.drew
   have HR4 := h_ HR3.drew
   go_wp2
   go_roundw
   case rel =>
    first
     | exact ⟨i + 1, by omega, by go_num, HR4, HO4⟩
     | ((repeat apply Exists.intro); exact ⟨⟨i + 1, by omega, by go_num, HR4, HO4⟩, rfl⟩)
   case measure => simp [intOf]; omega
  ·obtain rfl : i = 7 := by omega
   have d1 : decide ((7 : Int) < 7) = false := by simp
   have e7 : seven (sevTo (bs s) 7) = seven fun k => twoAt (bs s) (2 * k) := by
    refine List.ext_getElem (by simp [seven]) fun j h1 h2 => ?_
    have : j < 7 := by rw [seven_len] at h1; exact h1
    simp [seven, sevTo, this]
   have hsz : (Tryz.prog.info? 91).map (·.size) = some 7 := by kernel_rfl
   have H7 : Hid (((seven fun k => twoAt (bs s) (2 * k)).toArray).all (·.oneCell') = true) := by show _ = true; simp [seven, Value.oneCell', List.range, List.range.loop]
   rw [e7] at HO
   have HRr := h_ HR.res
   have HOr := h_ HO.res
   have hz : ((seven fun k => twoAt (bs s) (2 * k)).toArray).size = 7 := by simp [seven]
   have hz0 : ((seven (sevTo (bs s) 0)).toArray).size = 7 := by simp [seven]
   obtain ⟨Z, hZ⟩ := exq ((seven fun k => twoAt (bs s) (2 * k)).toArray)
   obtain ⟨Z0, hZ0⟩ := exq ((seven (sevTo (bs s) 0)).toArray)
   rw [hZ] at HOr H7 hz HO
   have HZ := h_ hZ
   rw [hZ0] at HRr hz0 HR
   clear hZ hZ0 e7
   go_wp2_with (first
    | (refine wpList_load_row rfl 91 _ rfl O rfl 91 _ (0, 0) _ (u_ HOr) Tryz.underlying91 rfl (by rw [hz]; exact hsz) ?_)
    | (refine wpList_store_row rfl 91 _ _ rfl R _ rfl rfl 91 _ (u_ HRr) (by rw [hz]; exact hsz) (by rw [hz, hz0]) (u_ H7) ?_))
   exact bodyPost_ret (results_cell_row Tryz.results47 _ _ R 91 Z (0, 0) _ rfl (setRow_heap wr R _ _ 91 (0, 0) (u_ HRr)) Tryz.underlying91 rfl (by rw [hz]; exact hsz)) rfl ⟨by rw [u_ HZ], (HR.set Z).b⟩
end N
end Go.Proofs.YtcofnockikninaaGreatDoor
