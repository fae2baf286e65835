/-
  Slices of slices of bytes: cut; grown by one; hashes as a function of their places.
  The walk of the reference's cut.
  Contracts of library functions, laid at this translation.
-/
import Derived.Test.YtmhlafhbdpeglaaDoorQ1
import Derived.Shelf.Small.Bits
import Derived.Shelf.Strconv.Itoa0
import Derived.Shelf.Bytes.SlEqualAll
import Derived.Shelf.Bytes.Small
import Derived.Test.YtmhlafhbdpeglaaDoorProg
namespace Go.Proofs.YtmhlafhbdpeglaaDoor
open Go.RowKit
theorem Ebb : Elem Tryd.prog 22 28 (.slice none 0 0) 24 := elem_of Tryd.underlying22 (by kernel_rfl) rfl (by omega)
theorem under_bb : Tryd.prog.underlying 22 = some (.slice (Tryd.prog.elem 22)) := by kernel_rfl
theorem elem_bb : Tryd.prog.elem 22 = 28 := by kernel_rfl
theorem size_tb (w : World) : (Go.sizeOf 28).run Tryd.prog w = .ok 1 w := by
  obtain ⟨_, ⟨i, hi, _, hsz, _⟩, _, _⟩ := Ebb
  simp [Go.sizeOf, typeInfo, hi, hsz]
theorem slice_restbb (sp : Option Addr) (K c f : Nat) (hf : f ≤ K) (w : World) : (Instr.sliceAt 22 (.slice sp K c) (some (.int .i64 (f : Int))) none none).run Tryd.prog w = .ok (.slice (cutAt sp c f) (K - f) (c - f)) w := by
  rw [run_sliceAt_slice w 22 _ _ _ _ under_bb, run_slice_l w 22 sp K c under_bb .i64 (f : Int) (by omega) (by omega), elem_bb, size_tb, Result.andThen_ok]
  simp only [sliced, Int.toNat_natCast, Nat.mul_one]
  rfl
theorem slice_frontbb (sp : Option Addr) (K c f : Nat) (hf : f ≤ c) (w : World) : (Instr.sliceAt 22 (.slice sp K c) none (some (.int .i64 (f : Int))) none).run Tryd.prog w = .ok (.slice sp f c) w := by
  rw [run_sliceAt_slice w 22 _ _ _ _ under_bb, run_slice_h w 22 sp K c under_bb .i64 (f : Int) (by omega) (by omega), elem_bb, size_tb, Result.andThen_ok]
  simp only [sliced, Int.toNat_natCast, Nat.sub_zero, Nat.zero_mul]
  split
  · rfl
  · cases sp <;> simp [Addr.add]
theorem vals_rest {w : World} {sp : Option Addr} {n c : Nat} {cs : List Value} (h : ValsAt w (.slice sp n c) cs) (f : Nat) (hf : f ≤ n) : ValsAt w (.slice (cutAt sp c f) (n - f) (c - f)) (cs.drop f) := by
  obtain ⟨sp', c', e, h1, h2, h3⟩ := h
  simp only [Value.slice.injEq] at e
  obtain ⟨rfl, hn, rfl⟩ := e
  subst hn
  refine ⟨cutAt sp c f, c - f, by rw [List.length_drop], by rw [List.length_drop]; omega, fun e => ?_, fun hne => ?_⟩
  · unfold cutAt at e
    split at e
    · have := h2 e; omega
    · cases sp with
      | none => have := h2 rfl; omega
      | some a => simp at e
  · have hl : f < cs.length := by
      rcases Nat.lt_or_ge f cs.length with h | h
      · exact h
      · exact absurd (List.drop_of_length_le h) hne
    obtain ⟨b, o, rfl, hc⟩ := h3 (by intro e; rw [e] at hl; simp at hl)
    refine ⟨b, o + f, ?_, fun j v hv => ?_⟩
    · unfold cutAt
      rw [if_neg (by omega), Option.map_some, Addr.add_mid]
    · rw [List.getElem?_drop] at hv
      have := hc (f + j) v hv
      rwa [show o + (f + j) = o + f + j by omega] at this
theorem vals_front {w : World} {sp : Option Addr} {n c : Nat} {cs : List Value} (h : ValsAt w (.slice sp n c) cs) (f : Nat) (hf : f ≤ n) : ValsAt w (.slice sp f c) (cs.take f) := by
  obtain ⟨sp', c', e, h1, h2, h3⟩ := h
  simp only [Value.slice.injEq] at e
  obtain ⟨rfl, hn, rfl⟩ := e
  subst hn
  refine ⟨sp, c, by rw [List.length_take, Nat.min_eq_left hf], by rw [List.length_take]; omega, h2, fun hne => ?_⟩
  obtain ⟨b, o, rfl, hc⟩ := h3 (by rintro rfl; simp at hne)
  refine ⟨b, o, rfl, fun j v hv => hc j v ?_⟩
  rw [List.getElem?_take] at hv
  split at hv
  · exact hv
  · cases hv
theorem LL.len {w : World} {s : Option Addr} {n c : Nat} {l : List Bs} (h : LL w (.slice s n c) l) : n = l.length ∧ l.length ≤ c := by
  obtain ⟨vs, ⟨sp, c', e, h2, _⟩, h1, _⟩ := h
  simp only [Value.slice.injEq] at e
  omega
theorem LL.rest {w : World} {sp : Option Addr} {n c : Nat} {l : List Bs} (h : LL w (.slice sp n c) l) (f : Nat) (hf : f ≤ n) : LL w (.slice (cutAt sp c f) (n - f) (c - f)) (l.drop f) := by
  obtain ⟨vs, h1, h2, h3⟩ := h
  refine ⟨vs.drop f, vals_rest h1 f hf, by simp [h2], fun i hi => ?_⟩
  rw [List.length_drop] at hi
  have := h3 (f + i) (by omega)
  simpa [List.getD_eq_getElem?_getD] using this
theorem LL.front {w : World} {sp : Option Addr} {n c : Nat} {l : List Bs} (h : LL w (.slice sp n c) l) (f : Nat) (hf : f ≤ n) : LL w (.slice sp f c) (l.take f) := by
  obtain ⟨vs, h1, h2, h3⟩ := h
  refine ⟨vs.take f, vals_front h1 f hf, by simp [h2], fun i hi => ?_⟩
  rw [List.length_take] at hi
  have := h3 i (by omega)
  simpa [List.getD_eq_getElem?_getD, List.getElem?_take, show i < f by omega] using this
/-- Hashes in blocks below B: the i-th is g (f + i). -/
def HL (B : Nat) (w : World) (x : Value) (g : Nat → Bs) (f n : Nat) : Prop := ∃ vs : List Value, ValsAt w x vs ∧ vs.length = n ∧ ∀ i, i < n → BytesAt w (vs.getD i undef) (g (f + i)) ∧ ∀ k, (vs.getD i undef).ownBlock = some k → k < B
theorem HL.below {B : Nat} {a b : World} {x : Value} {g : Nat → Bs} {f n : Nat} (h : HL B a x g f n) (hb : Below a.heap.size a b) : HL B b x g f n := by
  obtain ⟨vs, h1, h2, h3⟩ := h
  exact ⟨vs, h1.below hb, h2, fun i hi => ⟨(h3 i hi).1.below hb, (h3 i hi).2⟩⟩
theorem HL.mono {B B' : Nat} {w : World} {x : Value} {g : Nat → Bs} {f n : Nat} (h : HL B w x g f n) (hB : B ≤ B') : HL B' w x g f n := by
  obtain ⟨vs, h1, h2, h3⟩ := h
  exact ⟨vs, h1, h2, fun i hi => ⟨(h3 i hi).1, fun k hk => by have := (h3 i hi).2 k hk; omega⟩⟩
theorem HL.form {B : Nat} {w : World} {x : Value} {g : Nat → Bs} {f n : Nat} (h : HL B w x g f n) : ∃ s c, x = .slice s n c ∧ n ≤ c := by
  obtain ⟨vs, ⟨s, c, e, h4, _⟩, rfl, _⟩ := h
  exact ⟨s, c, e, h4⟩
theorem HL.front {B : Nat} {w : World} {s : Option Addr} {n c : Nat} {g : Nat → Bs} {f : Nat} (h : HL B w (.slice s n c) g f n) (k : Nat) (hk : k ≤ n) : HL B w (.slice s k c) g f k := by
  obtain ⟨vs, h1, h2, h3⟩ := h
  refine ⟨vs.take k, vals_front h1 k hk, by rw [List.length_take]; omega, fun i hi => ?_⟩
  have := h3 i (by omega)
  simpa [List.getD_eq_getElem?_getD, List.getElem?_take, hi] using this
theorem HL.rest {B : Nat} {w : World} {s : Option Addr} {n c : Nat} {g : Nat → Bs} {f : Nat} (h : HL B w (.slice s n c) g f n) (k : Nat) (hk : k ≤ n) : HL B w (.slice (cutAt s c k) (n - k) (c - k)) g (f + k) (n - k) := by
  obtain ⟨vs, h1, h2, h3⟩ := h
  refine ⟨vs.drop k, vals_rest h1 k hk, by rw [List.length_drop]; omega, fun i hi => ?_⟩
  have := h3 (k + i) (by omega)
  rw [show f + k + i = f + (k + i) by omega]
  simpa [List.getD_eq_getElem?_getD] using this
theorem HL.at {B : Nat} {w : World} {s : Option Addr} {n c : Nat} {g : Nat → Bs} {f : Nat} (h : HL B w (.slice s n c) g f n) (i : Nat) (hi : i < n) : ∃ b o v, s = some ⟨b, o, none⟩ ∧ b < w.heap.size ∧ w.cell? ⟨b, o + i, none⟩ = some v ∧ BytesAt w v (g (f + i)) ∧ ∀ k, v.ownBlock = some k → k < B := by
  obtain ⟨vs, h1, h2, h3⟩ := h
  obtain ⟨b, o, c', e, _, hb, hc⟩ := h1.cell (fun e => by rw [e] at h2; simp at h2; omega)
  simp only [Value.slice.injEq] at e
  obtain ⟨rfl, _, _⟩ := e
  exact ⟨b, o, _, rfl, hb, hc i (by omega), h3 i hi⟩
/-- A slice of slices of bytes of the call's own, that grows; its elements lie elsewhere. -/
def GrL (w : World) (base : Nat) (x : Value) (ls : List Bs) : Prop := ∃ vs : List Value, OwnV 28 w base x vs ∧ vs.length = ls.length ∧ ∀ i, i < ls.length → BytesAt w (vs.getD i undef) (ls.getD i []) ∧ (ls.getD i [] ≠ [] → Apart x (vs.getD i undef))
theorem grl_nil (w : World) (base : Nat) : GrL w base (.slice none 0 0) [] := ⟨[], own_nil _ _ _, rfl, fun i hi => by simp at hi⟩
theorem GrL.lists {w : World} {base : Nat} {x : Value} {ls : List Bs} (h : GrL w base x ls) : LL w x ls := by
  obtain ⟨vs, h1, h2, h3⟩ := h
  exact ⟨vs, h1.vals, h2, fun i hi => (h3 i hi).1⟩
theorem GrL.form {w : World} {base : Nat} {x : Value} {ls : List Bs} (h : GrL w base x ls) : ∃ sp c, x = .slice sp ls.length c := h.lists.form
theorem GrL.fresh {w : World} {base : Nat} {x : Value} {ls : List Bs} (h : GrL w base x ls) : Fresh base x := by
  obtain ⟨vs, h1, _⟩ := h
  exact h1.fresh
theorem GrL.lt {w : World} {base : Nat} {x : Value} {ls : List Bs} (h : GrL w base x ls) : ∀ k, x.ownBlock = some k → base ≤ k ∧ k < w.heap.size := by
  obtain ⟨vs, h1, _⟩ := h
  exact World.ownsRow.lt h1
theorem GrL.mono {w : World} {B B' : Nat} {x : Value} {ls : List Bs} (h : GrL w B x ls) (hB : B' ≤ B) : GrL w B' x ls := by
  obtain ⟨vs, h1, h2, h3⟩ := h
  exact ⟨vs, h1.mono hB, h2, h3⟩
theorem GrL.below {a b : World} {base : Nat} {x : Value} {ls : List Bs} (h : GrL a base x ls) (hb : Below a.heap.size a b) : GrL b base x ls := by
  obtain ⟨vs, h1, h2, h3⟩ := h
  exact ⟨vs, h1.below hb, h2, fun i hi => ⟨(h3 i hi).1.below hb, (h3 i hi).2⟩⟩
theorem bytes_grown {a b : World} {row : Option Nat} {x : Value} {l : Bs} (h : BytesAt a x l) (hg : a.grownBy b row) (hne : l ≠ [] → ∀ k, row = some k → x.ownBlock ≠ some k) : BytesAt b x l := by
  by_cases hl : l = []
  · subst hl
    obtain ⟨sp, c, rfl, h1, h2, _⟩ := h
    exact ⟨sp, c, rfl, h1, h2, fun e => absurd rfl e⟩
  · obtain ⟨sp, c, rfl, h1, h2, h3⟩ := h
    refine ⟨sp, c, rfl, h1, h2, fun e => ?_⟩
    obtain ⟨bb, o, rfl, hr⟩ := h3 e
    refine ⟨bb, o, rfl, fun j v hv => ?_⟩
    have h0 := hr j v hv
    rw [World.cell?_of_block (hg.block bb (World.block_lt_of_cell? a _ h0) fun e => hne hl bb e.symm (by simp [Value.ownBlock]))]; exact h0
theorem GrL.next {w w' : World} {base : Nat} {v v' u : Value} {ls : List Bs} {b : Bs} {vs : List Value} (h2 : vs.length = ls.length) (h3 : ∀ i, i < ls.length → BytesAt w (vs.getD i undef) (ls.getD i []) ∧ (ls.getD i [] ≠ [] → Apart v (vs.getD i undef))) (hu : BytesAt w u b) (hap : b ≠ [] → Apart v u)
    (ho : OwnV 28 w' base v' (vs ++ [u])) (hg : w.grownBy w' v.ownBlock) (hor : v'.ownBlock = v.ownBlock ∨ v'.ownBlock = some w.heap.size) : GrL w' base v' (ls ++ [b]) := by
  have key : ∀ (y : Value) (c : Bs), BytesAt w y c → (c ≠ [] → Apart v y) → BytesAt w' y c ∧ (c ≠ [] → Apart v' y) := fun y c hy ha => by
    refine ⟨bytes_grown hy hg fun hne k hk => ha hne k hk, fun hne k hk hq => ?_⟩
    rcases hor with e | e
    · rw [e] at hk; exact ha hne k hk hq
    · rw [e] at hk
      have := ValsAt.old hy (by simpa using hne) k hq
      simp only [Option.some.injEq] at hk
      omega
  refine ⟨vs ++ [u], ho, by simp [h2], fun i hi => ?_⟩
  rw [List.length_append, List.length_singleton] at hi
  by_cases hlt : i < ls.length
  · have e1 : (vs ++ [u]).getD i undef = vs.getD i undef := by simp [List.getD_eq_getElem?_getD, List.getElem?_append_left (show i < vs.length by omega)]
    have e2 : (ls ++ [b]).getD i [] = ls.getD i [] := by simp [List.getD_eq_getElem?_getD, List.getElem?_append_left hlt]
    rw [e1, e2]
    exact key _ _ (h3 i hlt).1 (h3 i hlt).2
  · obtain rfl : i = ls.length := by omega
    have e1 : (vs ++ [u]).getD ls.length undef = u := by rw [← h2]; simp [List.getD_eq_getElem?_getD]
    have e2 : (ls ++ [b]).getD ls.length [] = b := by simp [List.getD_eq_getElem?_getD]
    rw [e1, e2]
    exact key _ _ hu hap
theorem one_cell_bytes {w : World} {u : Value} {b : Bs} (h : BytesAt w u b) : u.oneCell' = true := by
  obtain ⟨sp, c, rfl, _⟩ := h
  rfl
/-- append of one to a list of the call's own. -/
theorem run_append_grl {w : World} {base : Nat} {v y u : Value} {l : List Bs} {b : Bs} (h : GrL w base v l) (hy : ValsAt w y [u]) (hu : BytesAt w u b) (hap : b ≠ [] → Apart v u) (hb : base ≤ w.heap.size) (hlen : l.length + 1 ≤ 1073741824) (ty : TypeId) :
    ∃ v' w', (Builtin.append_ #[22, 22] ty #[v, y]).run Tryd.prog w = .ok v' w' ∧ GrL w' base v' (l ++ [b]) ∧ w.grownBy w' v.ownBlock ∧ (v'.ownBlock = v.ownBlock ∨ v'.ownBlock = some w.heap.size) := by
  obtain ⟨vs, h1, h2, h3⟩ := h
  obtain ⟨v', w', hr, ho, hg, hor⟩ := run_append_vals Ebb w base v y vs [u] h1 hy (fun x hx => by rw [List.mem_singleton.1 hx]; exact one_cell_bytes hu) hb (by simp; omega) ty
  exact ⟨v', w', hr, GrL.next h2 h3 hu hap ho hg hor, hg, hor⟩
theorem wpList_append_grl {w : World} {ops : Array Oper} {rest : List Oper} {o : Oper} {a : Act} {Q : Exit → Act → World → Prop} (hgd : o.guard = none) (s x : Operand)
    (ho : o.op = .call { callee := .builtin .append, args := #[s, x], argTypes := #[22, 22] }) (base : Nat) (v y u : Value) (l : List Bs) (b : Bs) (hs : a.eval s = v) (hown : GrL w base v l)
    (hx : a.eval x = y) (hy : ValsAt w y [u]) (hu : BytesAt w u b) (hap : b ≠ [] → Apart v u) (hb : base ≤ w.heap.size) (hlen : l.length + 1 ≤ 1073741824)
    (h : ∀ v' w', GrL w' base v' (l ++ [b]) → w.grownBy w' v.ownBlock → (v'.ownBlock = v.ownBlock ∨ v'.ownBlock = some w.heap.size) → wpList Tryd.prog ops Q rest (a.put o.dst v') w') : wpList Tryd.prog ops Q (o :: rest) a w := by
  obtain ⟨vs, h1, h2, h3⟩ := hown
  exact wpList_append_vals Ebb hgd s x ho base v y vs [u] hs h1 hx hy (fun x hx => by rw [List.mem_singleton.1 hx]; exact one_cell_bytes hu) hb (by simp; omega) fun v' w' ho' hg hor => h v' w' (GrL.next h2 h3 hu hap ho' hg hor) hg hor
theorem step_append_grl {w : World} {ops : Array Oper} {o : Oper} {a : Act} {K : Act → World → Prop} {Q : Exit → Act → World → Prop} {E : Prop} (hgd : o.guard = none) (s x : Operand)
    (ho : o.op = .call { callee := .builtin .append, args := #[s, x], argTypes := #[22, 22] }) (base : Nat) (v y u : Value) (l : List Bs) (b : Bs) (hs : a.eval s = v) (hown : GrL w base v l)
    (hx : a.eval x = y) (hy : ValsAt w y [u]) (hu : BytesAt w u b) (hap : b ≠ [] → Apart v u) (hb : base ≤ w.heap.size) (hlen : l.length + 1 ≤ 1073741824)
    (h : ∀ v' w', GrL w' base v' (l ++ [b]) → w.grownBy w' v.ownBlock → (v'.ownBlock = v.ownBlock ∨ v'.ownBlock = some w.heap.size) → K (a.put o.dst v') w') : if Region.wanted o (yielded ops a.tmps) = true then Oper.wp Tryd.prog o a w K Q else E := by
  have hw : Region.wanted o (yielded ops a.tmps) = true := by simp [Region.wanted, hgd]
  rw [if_pos hw]
  obtain ⟨v', w', hrun, h2, h3, h4⟩ := run_append_grl hown hy hu hap hb hlen o.type
  unfold Oper.wp execOp
  simp only [ho, resolve, invoke, builtin, Sem.run_bind, Sem.run_pure, Result.andThen_ok, List.map_toArray, List.map_cons, List.map_nil, hs, hx, hrun]
  exact h v' w' h2 h3 h4
/-- The call gives these hashes, in a list of new memory. -/
def GivesL (w : World) (f : FuncId) (args : Array Value) (ls : List Bs) : Prop :=
  Calls Tryd.prog f args w fun e w' => ∃ v, e = .returned v ∧ GrL w' w.heap.size v ls ∧ Below w.heap.size w w'
/-- Says so. -/
def Says (w : World) (f : FuncId) (args : Array Value) (r : Bool) : Prop := Calls Tryd.prog f args w fun e w' => e = .returned (.bool r) ∧ Below w.heap.size w w'
end Go.Proofs.YtmhlafhbdpeglaaDoor
namespace Go.Proofs.YtmhlafhbdpeglaaDoor
open Go.RowKit
set_option maxRecDepth 100000 in
set_option maxHeartbeats 1000000 in
theorem qcut_c (w : World) (n : Nat) (h2 : 2 ≤ n) (hn : n ≤ 9223372036854775807) : Calls Tryd.prog 32 #[.int .i64 (n : Int)] w fun e w' => e = .returned (.int .i64 (cutP n : Int)) ∧ w' = w := by
  have n2 : (2 : Int) ≤ (n : Int) := by omega
  have n1 : (n : Int) ≤ 9223372036854775807 := by omega
  go_enter Tryd.func32, Tryd.ntmps32
  go_wp2
  go_loop [3] (fun k => ∃ q : Nat, k = .int .i64 (q : Int) ∧ q < n ∧ 1 ≤ q ∧ Hid (∃ j, q = 2 ^ j)) (fun k => n - (intOf k).toNat)
  case atStart => exact ⟨1, rfl, by omega, by omega, 0, rfl⟩
  case round =>
    obtain ⟨q, rfl, hq, hq1, Hj⟩ := hrel
    have q0 : (0 : Int) ≤ (q : Int) := by omega
    have q1 : (q : Int) < (n : Int) := by omega
    by_cases hlt : 2 * q < n
    · have d1 : decide ((q : Int) < (n : Int) - (q : Int)) = true := by simp; omega
      have Hj2 : Hid (∃ j, 2 * q = 2 ^ j) := by
        obtain ⟨j, hj⟩ := unhide Hj
        exact ⟨j + 1, by rw [Nat.pow_succ]; omega⟩
      go_wp2
      go_round
      case rel => exact ⟨2 * q, by go_num, by omega, by omega, Hj2⟩
      case measure => simp [intOf]; omega
    · have d1 : decide ((q : Int) < (n : Int) - (q : Int)) = false := by simp; omega
      have He : Hid ((q : Int) = (cutP n : Int)) := by
        obtain ⟨j, hj⟩ := unhide Hj
        show _ = _
        rw [hj, cut_of (n := n) (j := j) (by omega) (by omega)]
      go_wp2
      go_ret
      exact ⟨by rw [← unhide He]; rfl, rfl⟩
end Go.Proofs.YtmhlafhbdpeglaaDoor
namespace Go.Proofs
open Go.Shelf
def Tryd.lays125_ren : Go.Shelf.Ren := ⟨fun | 125 => 50 | 128 => 58 | 129 => 59 | n => n, fun | 46 => 66 | 3 => 3 | 51 => 68 | 53 => 67 | 4 => 4 | 5 => 5 | 9 => 9 | n => n, fun | n => n⟩
theorem Tryd.lays125 : Go.Proofs.Lays.n125 Tryd.prog Tryd.lays125_ren := {
  mixed := by kernel_rfl
  f125 := Tryd.func50.trans (congrArg some (by kernel_rfl))
  f128 := Tryd.func58.trans (congrArg some (by kernel_rfl))
  f129 := Tryd.func59.trans (congrArg some (by kernel_rfl))
  t3 := Tryd.underlying3
  a3 := Tryd.isAgg3
  z3 := Tryd.sizeOf3
  v3 := Tryd.zeroValue3
  t4 := Tryd.underlying4
  a4 := Tryd.isAgg4
  z4 := Tryd.sizeOf4
  v4 := Tryd.zeroValue4
  t5 := Tryd.underlying5
  a5 := Tryd.isAgg5
  z5 := Tryd.sizeOf5
  v5 := Tryd.zeroValue5
  t9 := Tryd.underlying9
  a9 := Tryd.isAgg9
  z9 := Tryd.sizeOf9
  v9 := Tryd.zeroValue9
  t46 := Tryd.underlying66
  a46 := Tryd.isAgg66
  z46 := Tryd.sizeOf66
  v46 := Tryd.zeroValue66
  t51 := Tryd.underlying68
  a51 := Tryd.isAgg68
  z51 := Tryd.sizeOf68
  v51 := Tryd.zeroValue68
  t53 := Tryd.underlying67
  a53 := Tryd.isAgg67
  z53 := Tryd.sizeOf67
  v53 := Tryd.zeroValue67 }
theorem Tryd.bits_Len (x : Int) (w : World) (h0 : 0 ≤ x) (h1 : x ≤ 18446744073709551615) :
    Calls Tryd.prog 50 #[.int .u64 x] w fun e w' => e = .returned (.int .i64 (Lib.bitLen x.toNat)) ∧ w' = w := Any.bits_Len Tryd.lays125 x w h0 h1
def Tryd.laysnb115_ren : Go.Shelf.Ren := ⟨fun | 115 => 38 | n => n, fun | 37 => 28 | 4 => 4 | 9 => 9 | 5 => 5 | n => n, fun | n => n⟩
theorem Tryd.laysnb115 : Go.Proofs.Lays.nb115 Tryd.prog Tryd.laysnb115_ren := {
  mixed := by kernel_rfl
  f115 := Tryd.func38.trans (congrArg some (by kernel_rfl))
  t4 := Tryd.underlying4
  a4 := Tryd.isAgg4
  z4 := Tryd.sizeOf4
  v4 := Tryd.zeroValue4
  t9 := Tryd.underlying9
  a9 := Tryd.isAgg9
  z9 := Tryd.sizeOf9
  v9 := Tryd.zeroValue9
  t37 := Tryd.underlying28
  a37 := Tryd.isAgg28
  z37 := Tryd.sizeOf28
  v37 := Tryd.zeroValue28
  t5 := Tryd.underlying5
  a5 := Tryd.isAgg5
  z5 := Tryd.sizeOf5
  v5 := Tryd.zeroValue5 }
theorem Tryd.bytes_Equal_all (p1 p2 : Option Addr) (n c m d : Nat) (xs ys : List Int) (w : World) (hx : xs.length = n) (hy : ys.length = m) (h1 : Lib.BytesIn w p1 n xs) (h2 : Lib.BytesIn w p2 m ys) :
    Calls Tryd.prog 38 #[.slice p1 n c, .slice p2 m d] w fun e w' => e = .returned (.bool (Lib.bytesOf xs == Lib.bytesOf ys)) ∧ w' = w := Any.bytes_Equal_all Tryd.laysnb115 p1 p2 n c m d xs ys w hx hy h1 h2
end Go.Proofs
