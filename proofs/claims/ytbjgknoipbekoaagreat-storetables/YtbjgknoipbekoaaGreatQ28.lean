/-
  StoreLasts and on: the reference's store in a variable.
  The tables of the landed store (layer 15): numbers in two bytes, as the statements put and get them; the key of a name.
  The tables of the landed store: key, write, read, walked.
  The tables of the landed store: Change and Drop, walked.
  Plain words on tables (layer 15): two tables of one store, beside the pairs that one of them must have.
-/
import Derived.Test.YtbjgknoipbekoaaGreatQ25
import Derived.Test.YtbjgknoipbekoaaGreatQ26
import Derived.Test.YtbjgknoipbekoaaGreatQ27
import Derived.Test.YtbjgknoipbekoaaGreatQ3
import Derived.Test.YtbjgknoipbekoaaGreatQ19
import Derived.Defers
import Derived.Recover
import Derived.Test.YtbjgknoipbekoaaGreatQ22
namespace Go.Proofs.YtbjgknoipbekoaaGreat
open Go.RowKit
/-- All blocks of the plate (and of the store) are in B, and were made behind w0. -/
def InB (w0 w : World) (B : Set_) : Prop := ∀ j, B j → w0.heap.size ≤ j ∧ j < w.heap.size
theorem InB.mono {w0 w w' : World} {B : Set_} (h : InB w0 w B) (hs : w.heap.size ≤ w'.heap.size) : InB w0 w' B := fun j hj => ⟨(h j hj).1, Nat.lt_of_lt_of_le (h j hj).2 hs⟩
/-- The blocks behind a call. -/
def BN (B : Set_) (w w' : World) : Set_ := fun j => (B j ∨ w.heap.size ≤ j) ∧ j < w'.heap.size
theorem InB.bn {w0 w w' : World} {B : Set_} (h : InB w0 w B) (h0 : w0.heap.size ≤ w.heap.size) : InB w0 w' (BN B w w') := fun j hj => ⟨hj.1.elim (fun h1 => (h j h1).1) fun h1 => by omega, hj.2⟩
theorem lt_of_row {w : World} {A : Nat} {o : Obj} (h : w.heap[A]? = some o) : A < w.heap.size := (Array.getElem?_eq_some_iff.1 h).1
/-- A variable of the reference's stores, in the block A; its pairs lie outside of B and X. -/
structure RV (w0 w : World) (B X : Set_) (A : Nat) (ps : List (Bs × Bs)) (h g u : Nat) (rv : Value) : Prop where
  row : w.heap[A]? = some (.cells [.int .i64 (h : Int), .int .i64 (g : Int), .int .i64 (u : Int), rv].toArray 34 (0, 0))
  out : ¬ B A
  ge : w0.heap.size ≤ A
  prs : PrsAt (fun j => ¬ B j ∧ ¬ X j) w rv ps
theorem PrsAt.bn {B X : Set_} {w w' : World} {x : Value} {l : List (Bs × Bs)} (h : PrsAt (fun j => ¬ B j ∧ ¬ X j) w x l) (ha : Aside B w w') : PrsAt (fun j => ¬ BN B w w' j ∧ ¬ X j) w' x l :=
  ((h.mono (K' := fun j => (¬ B j ∧ ¬ X j) ∧ j < w.heap.size) fun k hk h => ⟨h, hk⟩).aside ha fun k hk h => h.1.1 hk).mono fun k _ h => ⟨fun hb => hb.1.elim h.1.1 fun h2 => by have := h.2; omega, h.1.2⟩
theorem bn_out {B : Set_} {w w' : World} {A : Nat} (h : ¬ B A) (hl : A < w.heap.size) : ¬ BN B w w' A := fun hb => hb.1.elim h fun h2 => by omega
section
variable {w0 w w' : World} {B X : Set_} {A : Nat} {ps : List (Bs × Bs)} {h g u : Nat} {rv : Value}
/-- Behind a call on the plate. -/
theorem RV.call (H : RV w0 w B X A ps h g u rv) (ha : Aside B w w') : RV w0 w' (BN B w w') X A ps h g u rv :=
  ⟨(ha.block A (lt_of_row H.row) H.out).trans H.row, bn_out H.out (lt_of_row H.row), H.ge, H.prs.bn ha⟩
theorem RV.below (H : RV w0 w B X A ps h g u rv) (hb : Below w.heap.size w w') : RV w0 w' B X A ps h g u rv :=
  ⟨(hb.block A (lt_of_row H.row)).trans H.row, H.out, H.ge, H.prs.below hb⟩
/-- Another variable was written. -/
theorem RV.other (H : RV w0 w B X A ps h g u rv) {V : Nat} (ha : Aside (fun j => j = V) w w') (hV : A ≠ V) (hX : X V) : RV w0 w' B X A ps h g u rv :=
  ⟨(ha.block A (lt_of_row H.row) hV).trans H.row, H.out, H.ge, H.prs.aside ha fun _ hk h => h.2 (hk ▸ hX)⟩
/-- Fewer blocks are kept free, or more that the pairs don't lie in. -/
theorem RV.turn (H : RV w0 w B X A ps h g u rv) {Y : Set_} (hY : ∀ j, j < w.heap.size → Y j → X j) : RV w0 w B Y A ps h g u rv :=
  ⟨H.row, H.out, H.ge, H.prs.mono fun k hk h => ⟨h.1, fun hy => h.2 (hY k hk hy)⟩⟩
theorem RV.cells (H : RV w0 w B X A ps h g u rv) : w.cell? ⟨A, 0, none⟩ = some (.int .i64 (h : Int)) ∧ w.cell? ⟨A, 1, none⟩ = some (.int .i64 (g : Int)) ∧ w.cell? ⟨A, 2, none⟩ = some (.int .i64 (u : Int)) ∧ w.cell? ⟨A, 3, none⟩ = some rv :=
  ⟨row_cell H.row 0 _ rfl, row_cell H.row 1 _ rfl, row_cell H.row 2 _ rfl, row_cell H.row 3 _ rfl⟩
/-- The generation is set. -/
theorem RV.gen (H : RV w0 w B X A ps h g u rv) (hX : X A) (g2 : Nat) : RV w0 (w.setCell ⟨A, 1, none⟩ (.int .i64 (g2 : Int))) B X A ps h g2 u rv :=
  ⟨row_put H.row 1 (by simp) _, H.out, H.ge, H.prs.aside (S := fun j => j = A) (Aside.of_grown (setCell_grown A 1 _) fun _ e => (Option.some.inj e).symm) fun k hk h => h.2 (hk ▸ hX)⟩
/-- The pairs are set. -/
theorem RV.pairs (H : RV w0 w B X A ps h g u rv) (hX : X A) {qs : List (Bs × Bs)} {qv : Value} (hq : PrsAt (fun j => ¬ B j ∧ ¬ X j) w qv qs) : RV w0 (w.setCell ⟨A, 3, none⟩ qv) B X A qs h g u qv :=
  ⟨row_put H.row 3 (by simp) _, H.out, H.ge, hq.aside (S := fun j => j = A) (Aside.of_grown (setCell_grown A 3 _) fun _ e => (Option.some.inj e).symm) fun k hk h => h.2 (hk ▸ hX)⟩
end
theorem set_aside (w : World) (A k : Nat) (v : Value) : Aside (fun j => j = A) w (w.setCell ⟨A, k, none⟩ v) := Aside.of_grown (setCell_grown A k v) fun _ e => (Option.some.inj e).symm
/-- A row of four cells is written over. -/
def put4 (w : World) (A : Nat) (a b c d : Value) : World := (((w.setCell ⟨A, 0, none⟩ a).setCell ⟨A, 1, none⟩ b).setCell ⟨A, 2, none⟩ c).setCell ⟨A, 3, none⟩ d
theorem put4_row {w : World} {A : Nat} {T : TypeId} {a b c d a' b' c' d' : Value} (h : w.heap[A]? = some (.cells [a, b, c, d].toArray T (0, 0))) : (put4 w A a' b' c' d').heap[A]? = some (.cells [a', b', c', d'].toArray T (0, 0)) :=
  row_put (row_put (row_put (row_put h 0 (by simp) a') 1 (by simp) b') 2 (by simp) c') 3 (by simp) d'
theorem put4_aside (w : World) (A : Nat) (a b c d : Value) : Aside (fun j => j = A) w (put4 w A a b c d) :=
  (((set_aside w A 0 a).trans (set_aside _ A 1 b) fun _ _ h => h).trans (set_aside _ A 2 c) fun _ _ h => h).trans (set_aside _ A 3 d) fun _ _ h => h
theorem RV.put {w0 w : World} {B X : Set_} {A : Nat} {ps qs : List (Bs × Bs)} {h g u h' g' u' : Nat} {rv qv : Value} (H : RV w0 w B X A ps h g u rv) (hX : X A) (hq : PrsAt (fun j => ¬ B j ∧ ¬ X j) w qv qs) : RV w0 (put4 w A (.int .i64 (h' : Int)) (.int .i64 (g' : Int)) (.int .i64 (u' : Int)) qv) B X A qs h' g' u' qv :=
  ⟨put4_row H.row, H.out, H.ge, hq.aside (put4_aside w A _ _ _ _) fun _ hk h => h.2 (hk ▸ hX)⟩
end Go.Proofs.YtbjgknoipbekoaaGreat
namespace Go.Proofs.YtbjgknoipbekoaaGreat
open Go.RowKit
/-- A number below 2^16 in two bytes. -/
def putB (n : Nat) : Bs := [UInt8.ofNat (n / 256), UInt8.ofNat n]
/-- What two bytes say. -/
def getB (b : Bs) : Nat := if b.length = 2 then (b.getD 0 0).toNat * 256 + (b.getD 1 0).toNat else 0
theorem get_put {n : Nat} (h : n < 65536) : getB (putB n) = n := by
  unfold getB putB
  simp
  omega
theorem put_bytes (w : World) (n : Nat) (h : n < 65536) : BytesAt (w.alloc (.cells #[.int .u8 ((n / 256 : Nat) : Int), .int .u8 ((n % 256 : Nat) : Int)] 5)) (.slice (some ⟨w.heap.size, 0, none⟩) 2 2) (putB n) := by
  have h1 := bytes_new w (putB n)
  have e1 : (UInt8.ofNat (n / 256)).toNat = n / 256 := by rw [UInt8.toNat_ofNat', Nat.mod_eq_of_lt (by omega)]
  have e2 : (UInt8.ofNat n).toNat = n % 256 := by rw [UInt8.toNat_ofNat']
  simp only [putB, List.map_cons, List.map_nil, bv, e1, e2, List.length_cons, List.length_nil] at h1
  exact h1
set_option maxRecDepth 100000 in
theorem lput_c (w : World) (n : Nat) (hn : n < 65536) : Calls Tryz.prog 32 #[.int .i64 (n : Int)] w fun e w' => e = .returned (.slice (some ⟨w.heap.size, 0, none⟩) 2 2) ∧ BytesAt w' (.slice (some ⟨w.heap.size, 0, none⟩) 2 2) (putB n) ∧ Below w.heap.size w w' := by
  have HP := hide (put_bytes w n hn)
  obtain ⟨h, hh⟩ : ∃ y, n / 256 = y := ⟨_, rfl⟩
  obtain ⟨l, hl⟩ : ∃ y, n % 256 = y := ⟨_, rfl⟩
  rw [hh, hl] at HP
  have e1 : (n : Int) / 256 = (h : Int) := by omega
  have u1 : IntKind.u8.wrap (h : Int) = (h : Int) := by rw [IntKind.wrap_u8']; omega
  have u2 : IntKind.u8.wrap (n : Int) = (l : Int) := by rw [IntKind.wrap_u8']; omega
  clear hh hl
  go_enter Tryz.func32, Tryz.ntmps32
  go_wp2
  go_ret
  exact ⟨rfl, unhide HP, (Below.refl _ _).alloc (Nat.le_refl _) _⟩
set_option maxRecDepth 100000 in
theorem lget_c (w : World) (x : Value) (b : Bs) (hx : BytesAt w x b) : Calls Tryz.prog 33 #[x] w fun e w' => e = .returned (.tuple #[.int .i64 (getB b : Int), .bool (decide (b.length = 2))]) ∧ Below w.heap.size w w' := by
  obtain ⟨sp, c, rfl, _, _, hc⟩ := bytes_open hx
  obtain ⟨N, hN⟩ : ∃ N, b.length = N := ⟨_, rfl⟩
  by_cases h2 : N = 2
  · subst h2
    obtain ⟨bb, oo, rfl, _, hcell⟩ := hc (by intro e; rw [e] at hN; simp at hN)
    have c0 := hcell 0 (by omega)
    rw [Nat.add_zero] at c0
    have c1 := hcell 1 (by omega)
    have hp0 := (b.getD 0 0).toNat_lt
    have hp1 := (b.getD 1 0).toNat_lt
    have hA : getB b = (b.getD 0 0).toNat * 256 + (b.getD 1 0).toNat := by unfold getB; rw [if_pos hN]
    rw [hN, hA]
    obtain ⟨p, hp⟩ : ∃ p, (b.getD 0 0).toNat = p := ⟨_, rfl⟩
    obtain ⟨q, hq⟩ : ∃ q, (b.getD 1 0).toNat = q := ⟨_, rfl⟩
    rw [hp] at c0 hp0 ⊢
    rw [hq] at c1 hp1 ⊢
    obtain ⟨m1, hm1⟩ : ∃ m1, p * 256 = m1 := ⟨_, rfl⟩
    have e1 : (p : Int) * 256 = (m1 : Int) := by omega
    obtain ⟨m2, hm2⟩ : ∃ m2, m1 + q = m2 := ⟨_, rfl⟩
    rw [hm1, hm2]
    have b1 : m1 < 4294967296 := by omega
    have e2 : bits .or .i64 (m1 : Int) (q : Int) = (m2 : Int) := by
      have h9 := or_byte p q hp1
      rw [i64_or_nat m1 q b1 (by omega), ← hm1, h9, ← hm2, ← hm1, Nat.mul_comm]
    have hd : decide ((2 : Nat) = 2) = true := by decide
    rw [hd]
    have hbd : Below w.heap.size w w.drew := (Below.refl _ _).drew
    clear hp hq hm1 hm2 hA hcell hc hx hN hd
    go_enter Tryz.func33, Tryz.ntmps33
    go_wp2
    go_region
    go_wp2
    go_ret2
    exact ⟨rfl, hbd⟩
  · have hA : getB b = 0 := by unfold getB; rw [if_neg (by omega)]
    rw [hN, hA, decide_eq_false h2]
    have d1 : decide ((N : Int) = 2) = false := by simp; omega
    have d2 : ((N : Int) == 2) = false := by simp; omega
    clear hc hx hN hA
    go_enter Tryz.func33, Tryz.ntmps33
    go_wp2
    go_ret2
    exact ⟨rfl, Below.refl _ _⟩
/-- The statements' put and get, as values. -/
def putV : Value := .func (.func 32) #[] #[]
def getV : Value := .func (.func 33) #[] #[]
/-- A table of the store t, in the block A. -/
structure TabAt (w : World) (tv t : Value) (pre : ByteArray) (A : Nat) : Prop where
  ptr : tv = .pointer (some ⟨A, 0, none⟩)
  row : w.heap[A]? = some (.cells [t, .string pre, putV, getV].toArray 116 (0, 0))
theorem TabAt.below {w w' : World} {tv t : Value} {pre : ByteArray} {A : Nat} (h : TabAt w tv t pre A) (hb : Below w.heap.size w w') : TabAt w' tv t pre A := ⟨h.ptr, (hb.block A (lt_of_row h.row)).trans h.row⟩
theorem TabAt.aside {w w' : World} {S : Set_} {tv t : Value} {pre : ByteArray} {A : Nat} (h : TabAt w tv t pre A) (ha : Aside S w w') (hS : ¬ S A) : TabAt w' tv t pre A := ⟨h.ptr, (ha.block A (lt_of_row h.row) hS).trans h.row⟩
theorem TabAt.cells {w : World} {tv t : Value} {pre : ByteArray} {A : Nat} (h : TabAt w tv t pre A) : w.cell? ⟨A, 0, none⟩ = some t ∧ w.cell? ⟨A, 1, none⟩ = some (.string pre) ∧ w.cell? ⟨A, 2, none⟩ = some putV ∧ w.cell? ⟨A, 3, none⟩ = some getV :=
  ⟨row_cell h.row 0 _ rfl, row_cell h.row 1 _ rfl, row_cell h.row 2 _ rfl, row_cell h.row 3 _ rfl⟩
set_option maxRecDepth 100000 in
theorem tnew_c (w : World) (t : Addr) (pre : ByteArray) : Calls Tryz.prog 31 #[.pointer (some t), .string pre, putV, getV] w fun e w' => e = .returned (.pointer (some ⟨w.heap.size, 0, none⟩)) ∧ TabAt w' (.pointer (some ⟨w.heap.size, 0, none⟩)) (.pointer (some t)) pre w.heap.size ∧ Below w.heap.size w w' := by
  go_enter Tryz.func31, Tryz.ntmps31
  unfold putV getV
  go_wp2
  go_ret
  exact ⟨rfl, ⟨rfl, (MapKept.heap_alloc w _).1⟩, (Below.refl _ _).alloc (Nat.le_refl _) _⟩
theorem wrec_c (w : World) : CallsD Tryz.prog 78 #[] .returning w fun e u' w' => e = .returned (.tuple #[]) ∧ u' = .returning ∧ w' = w := by
  refine callsD_of_wpS Tryz.func78 rfl fun c₀ cs hu => ?_
  apply wpS_region
  cases c₀
  simp_all [wpOpsS, go_sem, recoverD, Tryz.ntmps78, bodyPostS, results, Tryz.results78]
theorem rrec_c (w : World) : CallsD Tryz.prog 79 #[] .returning w fun e u' w' => e = .returned (.tuple #[]) ∧ u' = .returning ∧ w' = w := by
  refine callsD_of_wpS Tryz.func79 rfl fun c₀ cs hu => ?_
  apply wpS_region
  cases c₀
  simp_all [wpOpsS, go_sem, recoverD, Tryz.ntmps79, bodyPostS, results, Tryz.results79]
end Go.Proofs.YtbjgknoipbekoaaGreat
namespace Go.Proofs.YtbjgknoipbekoaaGreat
open Go.RowKit
set_option maxRecDepth 100000 in
theorem tkey_c {w : World} {tv t : Value} {pre : ByteArray} {A : Nat} (h : TabAt w tv t pre A) (s : ByteArray) (hs : pre.size + s.size ≤ 1000000) : Calls Tryz.prog 60 #[tv, .string s] w fun e w' => ∃ cp, e = .returned (.slice (some ⟨w.heap.size, 0, none⟩) (pre.size + s.size) cp) ∧ BytesAt w' (.slice (some ⟨w.heap.size, 0, none⟩) (pre.size + s.size) cp) (pre ++ s).data.toList ∧ Below w.heap.size w w' := by
  obtain ⟨k0, k1, k2, k3⟩ := h.cells
  obtain ⟨rfl, _⟩ := h
  obtain ⟨cp, wb, hrun, hby, hb, _⟩ := conv_bytes w (pre ++ s)
  rw [ByteArray.size_append] at hrun hby
  have n1 : ¬ 9223372036854775807 < pre.size + s.size := by omega
  have n2 : ¬ (9223372036854775807 : Int) < (pre.size : Int) + (s.size : Int) := by omega
  have HBy := hide hby
  have HB := hide hb
  clear hby hb k0 k2 k3
  go_enter Tryz.func60, Tryz.ntmps60
  go_wp2
  go_ret
  exact ⟨cp, rfl, unhide HBy, unhide HB⟩
set_option maxRecDepth 100000 in
theorem twrite_c {w : World} {tv t : Value} {pre : ByteArray} {A : Nat} (h : TabAt w tv t pre A) (n : Nat) (hn : n < 65536) : Calls Tryz.prog 59 #[tv, .int .i64 (n : Int)] w fun e w' => ∃ v, e = .returned (.tuple #[v, .bool true]) ∧ Row w w' v (putB n) := by
  obtain ⟨k0, k1, k2, k3⟩ := h.cells
  obtain ⟨rfl, _⟩ := h
  have HP := hide (lput_c w n hn)
  unfold putV at k2
  clear k0 k1 k3
  go_enter_defers Tryz.func59, Tryz.ntmps59
  go_wp2_with (first
    | (go_at_call 32; refine (unhide HP).mono ?_
       rintro e w1 ⟨rfl, hby, hb⟩
       have HBy := hide hby
       have HRn : Hid (Row w w1 (.slice none 0 0) []) := ⟨ownb_nil _ _, hb⟩
       have HLn : Hid (([] : Bs).length + (putB n).length ≤ 1073741824) := by show _ ≤ _; unfold putB; simp
       clear hby hb)
    | (at_builtin; refine wpList_append_row rfl _ _ rfl (.slice none 0 0) _ [] (putB n) rfl (unhide HRn) rfl (unhide HBy) (unhide HLn) ?_
       intro v w2 hR2
       rw [List.nil_append] at hR2
       have HR2 := hide hR2
       clear hR2))
  refine leaves_cons (f := 78) (args := #[]) (by simp) (by simp [go_sem]) ?_
  refine (wrec_c _).mono ?_
  rintro e u' w'' ⟨rfl, rfl, rfl⟩
  simp [Leaves, settle, results, Tryz.results59, go_sem]
  exact unhide HR2
set_option maxRecDepth 100000 in
theorem tread_c {w : World} {tv t : Value} {pre : ByteArray} {A : Nat} (h : TabAt w tv t pre A) (x : Value) (b : Bs) (hx : BytesAt w x b) : Calls Tryz.prog 61 #[tv, x] w fun e w' => e = .returned (.tuple #[.int .i64 (getB b : Int), .bool (decide (b.length = 2))]) ∧ Below w.heap.size w w' := by
  obtain ⟨k0, k1, k2, k3⟩ := h.cells
  obtain ⟨rfl, _⟩ := h
  have HP := hide (lget_c w x b hx)
  obtain ⟨sp, c, rfl, _⟩ := bytes_open hx
  have hz : ¬ b.length = 2 → getB b = 0 := fun h => by unfold getB; rw [if_neg h]
  obtain ⟨N, hN⟩ : ∃ N, b.length = N := ⟨_, rfl⟩
  obtain ⟨G, hG⟩ : ∃ G, getB b = G := ⟨_, rfl⟩
  rw [hN, hG] at HP hz
  rw [hN, hG]
  unfold getV at k3
  clear k0 k1 k2 hx hN hG
  by_cases h2 : N = 2
  · rw [decide_eq_true h2] at HP ⊢
    clear hz h2
    go_enter_defers Tryz.func61, Tryz.ntmps61
    go_wp2_with (go_at_call 33; refine (unhide HP).mono ?_; rintro e w1 ⟨rfl, hb⟩; have HB := hide hb; clear hb)
    refine leaves_cons (f := 79) (args := #[]) (by simp) (by simp [go_sem]) ?_
    refine (rrec_c _).mono ?_
    rintro e u' w'' ⟨rfl, rfl, rfl⟩
    simp [Leaves, settle, results, Tryz.results61, go_sem]
    exact unhide HB
  · obtain rfl := hz h2
    rw [decide_eq_false h2] at HP ⊢
    clear hz h2
    go_enter_defers Tryz.func61, Tryz.ntmps61
    go_wp2_with (go_at_call 33; refine (unhide HP).mono ?_; rintro e w1 ⟨rfl, hb⟩; have HB := hide hb; clear hb)
    refine leaves_cons (f := 79) (args := #[]) (by simp) (by simp [go_sem]) ?_
    refine (rrec_c _).mono ?_
    rintro e u' w'' ⟨rfl, rfl, rfl⟩
    simp [Leaves, settle, results, Tryz.results61, go_sem]
    exact unhide HB
end Go.Proofs.YtbjgknoipbekoaaGreat
namespace Go.Proofs.YtbjgknoipbekoaaGreat
open Go.RowKit
set_option maxRecDepth 100000 in
set_option maxHeartbeats 2000000 in
theorem tdrop_c {w : World} {tv t : Value} {pre : ByteArray} {A : Nat} (h : TabAt w tv t pre A) (s : ByteArray) (hs : pre.size + s.size ≤ 1000000) : Calls Tryz.prog 35 #[tv, .string s] w fun e w' => ∃ s1 n1 c1, e = .returned (.agg #[.slice s1 n1 c1, .slice none 0 0, .bool true]) ∧ ChV w.heap.size w' ⟨(pre ++ s).data.toList, [], true⟩ (.slice s1 n1 c1) (.slice none 0 0) ∧ Below w.heap.size w w' := by
  obtain ⟨w1, hw1⟩ : ∃ y, w.alloc (.cells #[.slice none 0 0, .slice none 0 0, .bool false] 72) = y := ⟨_, rfl⟩
  have hS1 : S3 w1 w.heap.size (.slice none 0 0) (.slice none 0 0) (.bool false) := by rw [← hw1]; exact S3.new w _ _ _
  have hb1 : Below w.heap.size w w1 := by rw [← hw1]; exact (Below.refl _ _).alloc (Nat.le_refl _) _
  have Hk := hide (tkey_c (h.below hb1) s hs)
  obtain ⟨rfl, _⟩ := h
  obtain ⟨KN, hKN⟩ : ∃ y, pre.size + s.size = y := ⟨_, rfl⟩
  rw [hKN] at Hk
  have hlt1 := World.block_lt_of_cell? _ _ hS1.c0
  have HS1 := hide hS1
  have HB1 := hide hb1
  have HL1 : Hid (w.heap.size < w1.heap.size) := hlt1
  clear hS1 hb1 hlt1 hKN hs
  go_enter Tryz.func35, Tryz.ntmps35
  go_wp2_with (first
    | (go_at_call 60; refine (unhide Hk).mono ?_
       rintro e w2 ⟨cp, rfl, hbt, hb2⟩
       have hS2 := (unhide HS1).below hb2
       have HS2 := hide hS2
       obtain ⟨W4, hW4⟩ : ∃ y, w2.setRow w.heap.size #[.slice (some ⟨w1.heap.size, 0, none⟩) KN cp, .slice none 0 0, .bool true] = y := ⟨_, rfl⟩
       have HS4 : Hid (S3 W4 w.heap.size (.slice (some ⟨w1.heap.size, 0, none⟩) KN cp) (.slice none 0 0) (.bool true)) := by rw [← hW4]; exact setRow_heap _ w.heap.size _ _ 72 _ hS2
       have hA4 : Aside (fun j => j = w.heap.size) w2 W4 := by rw [← hW4]; exact ⟨rfl, rfl, rfl, by simp, fun j _ hj => setRow_other _ _ j _ hj⟩
       have HB4 : Hid (Below w.heap.size w W4) := ((unhide HB1).trans (hb2.mono (unhide HB1).size)).trans (hA4.below (by have := hb2.size; have := unhide HL1; omega) fun j hj => by omega)
       have HC : Hid (ChV w.heap.size W4 ⟨(pre ++ s).data.toList, [], true⟩ (.slice (some ⟨w1.heap.size, 0, none⟩) KN cp) (.slice none 0 0)) := by
         refine ⟨hbt.aside hA4 fun j hj e => ?_, bytes_nil W4, fun _ j hj => ?_, fun hne => absurd rfl hne⟩
         all_goals simp only [Value.ownBlock, Option.some.injEq] at hj
         all_goals have := unhide HL1
         · omega
         · omega
       clear hS2 hA4 hbt hb2)
    | (refine wpList_store_row rfl 72 _ _ rfl w.heap.size #[.slice (some ⟨w1.heap.size, 0, none⟩) KN cp, .slice none 0 0, .bool true] rfl rfl 72 _ (unhide HS2) info_ch rfl (by simp [Value.oneCell']) ?_; rw [hW4]))
  (try simp only [Exit.inBlock, Exit.then])
  refine bodyPost_ret (results_cell1 Tryz.results35 _ _ w.heap.size _ rfl (unhide HS4).load) rfl ?_
  exact ⟨_, _, _, rfl, unhide HC, unhide HB4⟩
set_option maxRecDepth 100000 in
set_option maxHeartbeats 2000000 in
theorem tchange_c {w : World} {tv t : Value} {pre : ByteArray} {A : Nat} (h : TabAt w tv t pre A) (s : ByteArray) (hs : pre.size + s.size ≤ 1000000) (n : Nat) (hn : n < 65536) : Calls Tryz.prog 34 #[tv, .string s, .int .i64 (n : Int)] w fun e w' => ∃ s1 n1 c1 s2 n2 c2, e = .returned (.agg #[.slice s1 n1 c1, .slice s2 n2 c2, .bool false]) ∧ ChV w.heap.size w' ⟨(pre ++ s).data.toList, putB n, false⟩ (.slice s1 n1 c1) (.slice s2 n2 c2) ∧ Below w.heap.size w w' := by
  obtain ⟨w1, hw1⟩ : ∃ y, w.alloc (.cells #[.slice none 0 0, .slice none 0 0, .bool false] 72) = y := ⟨_, rfl⟩
  have hS1 : S3 w1 w.heap.size (.slice none 0 0) (.slice none 0 0) (.bool false) := by rw [← hw1]; exact S3.new w _ _ _
  have hb1 : Below w.heap.size w w1 := by rw [← hw1]; exact (Below.refl _ _).alloc (Nat.le_refl _) _
  have Hw := hide (twrite_c (h.below hb1) n hn)
  have Hk : Hid (∀ w2, Below w1.heap.size w1 w2 → Calls Tryz.prog 60 #[tv, .string s] w2 fun e w' => ∃ cp, e = .returned (.slice (some ⟨w2.heap.size, 0, none⟩) (pre.size + s.size) cp) ∧ BytesAt w' (.slice (some ⟨w2.heap.size, 0, none⟩) (pre.size + s.size) cp) (pre ++ s).data.toList ∧ Below w2.heap.size w2 w') := fun w2 hb => tkey_c ((h.below hb1).below hb) s hs
  obtain ⟨rfl, _⟩ := h
  obtain ⟨KN, hKN⟩ : ∃ y, pre.size + s.size = y := ⟨_, rfl⟩
  rw [hKN] at Hk
  have hlt1 := World.block_lt_of_cell? _ _ hS1.c0
  have HS1 := hide hS1
  have HB1 := hide hb1
  have HL1 : Hid (w.heap.size < w1.heap.size) := hlt1
  clear hS1 hb1 hlt1 hKN hs
  go_enter Tryz.func34, Tryz.ntmps34
  go_wp2_with (first
    | (go_at_call 59; refine (unhide Hw).mono ?_
       rintro e w2 ⟨v2, rfl, hR2⟩
       obtain ⟨s2, c2, e2⟩ := hR2.own.form
       obtain ⟨VN, hVN⟩ : ∃ y, (putB n).length = y := ⟨_, rfl⟩
       rw [hVN] at e2
       subst e2
       have HR2 := hide hR2
       clear hR2 hVN)
    | (go_at_call 60; refine (unhide Hk _ (unhide HR2).b).mono ?_
       rintro e w3 ⟨cp, rfl, hbt, hb3⟩
       have hS3 := ((unhide HS1).below (unhide HR2).b).below hb3
       have HS3 := hide hS3
       obtain ⟨W4, hW4⟩ : ∃ y, w3.setRow w.heap.size #[.slice (some ⟨w2.heap.size, 0, none⟩) KN cp, .slice s2 VN c2, .bool false] = y := ⟨_, rfl⟩
       have HS4 : Hid (S3 W4 w.heap.size (.slice (some ⟨w2.heap.size, 0, none⟩) KN cp) (.slice s2 VN c2) (.bool false)) := by rw [← hW4]; exact setRow_heap _ w.heap.size _ _ 72 _ hS3
       have hA4 : Aside (fun j => j = w.heap.size) w3 W4 := by rw [← hW4]; exact ⟨rfl, rfl, rfl, by simp, fun j _ hj => setRow_other _ _ j _ hj⟩
       have hs12 := (unhide HR2).b.size
       have hb13 : Below w1.heap.size w1 w3 := (unhide HR2).b.trans (hb3.mono hs12)
       have HB4 : Hid (Below w.heap.size w W4) := ((unhide HB1).trans (hb13.mono (unhide HB1).size)).trans (hA4.below (by have := hb13.size; have := unhide HL1; omega) fun j hj => by omega)
       have HC : Hid (ChV w.heap.size W4 ⟨(pre ++ s).data.toList, putB n, false⟩ (.slice (some ⟨w2.heap.size, 0, none⟩) KN cp) (.slice s2 VN c2)) := by
         have hl := unhide HL1
         refine ⟨hbt.aside hA4 fun j hj e => ?_, ((unhide HR2).bytes.below hb3).aside hA4 fun j hj e => ?_, fun _ j hj => ?_, fun _ j hj => ?_⟩
         · simp only [Value.ownBlock, Option.some.injEq] at hj
           omega
         · have := (World.ownsRow.lt (unhide HR2).own j hj).1
           omega
         · simp only [Value.ownBlock, Option.some.injEq] at hj
           omega
         · have := (World.ownsRow.lt (unhide HR2).own j hj).1
           omega
       clear hS3 hA4 hbt hb3 hs12 hb13)
    | (refine wpList_store_row rfl 72 _ _ rfl w.heap.size #[.slice (some ⟨w2.heap.size, 0, none⟩) KN cp, .slice s2 VN c2, .bool false] rfl rfl 72 _ (unhide HS3) info_ch rfl (by simp [Value.oneCell']) ?_; rw [hW4]))
  (try simp only [Exit.inBlock, Exit.then])
  refine bodyPost_ret (results_cell1 Tryz.results34 _ _ w.heap.size _ rfl (unhide HS4).load) rfl ?_
  exact ⟨_, _, _, _, _, _, rfl, unhide HC, unhide HB4⟩
end Go.Proofs.YtbjgknoipbekoaaGreat
namespace Go.Proofs.YtbjgknoipbekoaaGreat
theorem less_pre (c : UInt8) (x y : Bs) : lessB (c :: x) (c :: y) = lessB x y := by
  simp [lessB]
/-- The pairs behind a prefix, without it. -/
def tabP (pre : Bs) (ps : List (Bs × Bs)) : List (Bs × Bs) := (ps.filter fun x => pre.isPrefixOf x.1).map fun x => (x.1.drop pre.length, x.2)
theorem cut_keys (pre : Bs) (ps : List (Bs × Bs)) : (tabP pre ps).map (·.1) = (keysP ps pre).map (·.drop pre.length) := by
  unfold tabP keysP
  rw [List.map_map, List.filter_map, List.map_map]
  rfl
theorem pre_app {pre x : Bs} (h : pre.isPrefixOf x = true) : pre ++ x.drop pre.length = x := by
  obtain ⟨y, rfl⟩ := List.isPrefixOf_iff_prefix.1 h
  rw [List.drop_left]
theorem tless_app : ∀ (pre x y : Bs), lessB (pre ++ x) (pre ++ y) = lessB x y
  | [], _, _ => rfl
  | c :: pre, x, y => by
    rw [List.cons_append, List.cons_append, less_pre]
    exact tless_app pre x y
theorem cut_sorted {pre : Bs} {ps : List (Bs × Bs)} (h : SortedP ps) : SortedP (tabP pre ps) := by
  unfold tabP
  refine List.pairwise_map.2 ((List.Pairwise.filter _ h).imp_of_mem fun {a b} ha hb hab => ?_)
  have h1 := pre_app (List.mem_filter.1 ha).2
  have h2 := pre_app (List.mem_filter.1 hb).2
  rw [← h1, ← h2, tless_app] at hab
  exact hab
theorem cut_get (pre : Bs) (k : Bs) : ∀ ps : List (Bs × Bs), getP (tabP pre ps) k = getP ps (pre ++ k)
  | [] => rfl
  | x :: ps => by
    have ih := cut_get pre k ps
    unfold tabP at ih ⊢
    by_cases hp : pre.isPrefixOf x.1 = true
    · rw [show (x :: ps).filter (fun x => pre.isPrefixOf x.1) = x :: ps.filter (fun x => pre.isPrefixOf x.1) from List.filter_cons_of_pos hp, List.map_cons]
      unfold getP
      rw [ih]
      by_cases he : x.1.drop pre.length = k
      · rw [if_pos he, if_pos (by rw [← he, pre_app hp])]
      · rw [if_neg he, if_neg (fun e => he (by rw [e, List.drop_left]))]
    · rw [show (x :: ps).filter (fun x => pre.isPrefixOf x.1) = ps.filter (fun x => pre.isPrefixOf x.1) from List.filter_cons_of_neg hp, ih]
      conv => rhs; unfold getP
      rw [if_neg (fun e => hp (by rw [e]; exact List.isPrefixOf_iff_prefix.2 (List.prefix_append _ _)))]
theorem tget_at : ∀ {ps : List (Bs × Bs)} {x : Bs × Bs}, SortedP ps → x ∈ ps → getP ps x.1 = some x.2
  | [], _, _, h => by cases h
  | y :: ps, x, hs, h => by
    unfold getP
    rcases List.mem_cons.1 h with rfl | h2
    · rw [if_pos rfl]
    · have h3 := less_ne ((List.pairwise_cons.1 hs).1 x h2)
      rw [if_neg h3]
      exact tget_at (List.pairwise_cons.1 hs).2 h2
def preA : Bs := [97, 47]
def preB : Bs := [98, 47]
theorem pre_apart (x y : Bs) : preA ++ x ≠ preB ++ y := fun h => by
  have h1 := (List.cons.inj h).1
  exact absurd h1 (by decide)
theorem pre_inj (x y : Bs) : (preA ++ x = preA ++ y ↔ x = y) ∧ (preB ++ x = preB ++ y ↔ x = y) := ⟨List.append_right_inj _, List.append_right_inj _⟩
/-- The store's pairs P have table a as W says, and in table b each name of W with the neighbour of its number. -/
structure Tabs (P W : List (Bs × Bs)) : Prop where
  sp : SortedP P
  sw : SortedP W
  a : ∀ k, getP P (preA ++ k) = getP W k
  b : ∀ k v, getP W k = some v → ∃ n, n < 65536 ∧ v = putB n ∧ getP P (preB ++ k) = some (putB (n ^^^ 1))
  few : ∀ x ∈ W, x.1.length ≤ 20
theorem Tabs.nil : Tabs [] [] := ⟨List.Pairwise.nil, List.Pairwise.nil, fun _ => rfl, fun _ _ h => (by cases h), fun _ h => (by cases h)⟩
theorem Tabs.keys {P W : List (Bs × Bs)} (h : Tabs P W) : (keysP P preA).map (·.drop 2) = W.map (·.1) := by
  have e : tabP preA P = W := sorted_ext (cut_sorted h.sp) h.sw fun k => by rw [cut_get]; exact h.a k
  have h2 := cut_keys preA P
  rw [e] at h2
  exact h2.symm
theorem with_short {W : List (Bs × Bs)} {c : Ch} (hW : ∀ x ∈ W, x.1.length ≤ 20) (hc : c.key.length ≤ 20) : ∀ x ∈ withP W [c], x.1.length ≤ 20 := fun x hx => by
  rw [with_cons, with_nil] at hx
  rcases ins_mem hx with rfl | h
  · exact hc
  · exact hW x h.1
/-- A number is set in both. -/
theorem Tabs.set {P W : List (Bs × Bs)} (h : Tabs P W) (s : Bs) (hs : s.length ≤ 20) (n : Nat) (hn : n < 65536) : Tabs (withP P [⟨preA ++ s, putB n, false⟩, ⟨preB ++ s, putB (n ^^^ 1), false⟩]) (withP W [⟨s, putB n, false⟩]) := by
  refine ⟨with_sorted _ _ h.sp, with_sorted _ _ h.sw, fun k => ?_, fun k v hv => ?_, with_short h.few hs⟩
  · rw [with_get _ _ _ h.sp, with_get _ _ _ h.sw]
    simp only [lastP, List.foldl_cons, List.foldl_nil]
    rw [if_neg (pre_apart k s), h.a k]
    by_cases e : k = s
    · rw [if_pos e, if_pos (by rw [e])]
    · rw [if_neg e, if_neg (fun h2 => e ((pre_inj k s).1.1 h2))]
  · rw [with_get _ _ _ h.sw] at hv
    rw [with_get _ _ _ h.sp]
    simp only [lastP, List.foldl_cons, List.foldl_nil] at hv ⊢
    by_cases e : k = s
    · subst e
      rw [if_pos rfl] at hv
      simp only [Bool.false_eq_true, if_false, Option.some.injEq] at hv
      refine ⟨n, hn, hv.symm, ?_⟩
      rw [if_pos rfl]
      rfl
    · rw [if_neg e] at hv
      obtain ⟨m, h1, h2, h3⟩ := h.b k v hv
      refine ⟨m, h1, h2, ?_⟩
      rw [if_neg (fun h2 => e ((pre_inj k s).2.1 h2)), if_neg (fun h2 => pre_apart s k h2.symm)]
      exact h3
/-- A name is dropped from the first. -/
theorem Tabs.drop {P W : List (Bs × Bs)} (h : Tabs P W) (s : Bs) (hs : s.length ≤ 20) : Tabs (withP P [⟨preA ++ s, [], true⟩]) (withP W [⟨s, [], true⟩]) := by
  refine ⟨with_sorted _ _ h.sp, with_sorted _ _ h.sw, fun k => ?_, fun k v hv => ?_, with_short h.few hs⟩
  · rw [with_get _ _ _ h.sp, with_get _ _ _ h.sw]
    simp only [lastP, List.foldl_cons, List.foldl_nil]
    rw [h.a k]
    by_cases e : k = s
    · rw [if_pos e, if_pos (by rw [e])]
    · rw [if_neg e, if_neg (fun h2 => e ((pre_inj k s).1.1 h2))]
  · rw [with_get _ _ _ h.sw] at hv
    rw [with_get _ _ _ h.sp]
    simp only [lastP, List.foldl_cons, List.foldl_nil] at hv ⊢
    by_cases e : k = s
    · rw [if_pos e] at hv
      simp at hv
    · rw [if_neg e] at hv
      obtain ⟨m, h1, h2, h3⟩ := h.b k v hv
      refine ⟨m, h1, h2, ?_⟩
      rw [if_neg (fun h2 => pre_apart s k h2.symm)]
      exact h3
/-- The three answers at a name that is there. -/
theorem Tabs.here {P W : List (Bs × Bs)} (h : Tabs P W) {i : Nat} {x : Bs × Bs} (hx : W[i]? = some x) : ∃ n, n < 65536 ∧ x.2 = putB n ∧ getP P (preA ++ x.1) = some (putB n) ∧ getP P (preB ++ x.1) = some (putB (n ^^^ 1)) := by
  have hg := tget_at h.sw (List.mem_of_getElem? hx)
  obtain ⟨n, h1, h2, h3⟩ := h.b _ _ hg
  exact ⟨n, h1, h2, by rw [h.a, hg, h2], h3⟩
theorem xor_small {n : Nat} (h : n < 65536) : n ^^^ 1 < 65536 := Nat.xor_lt_two_pow (n := 16) h (by omega)
end Go.Proofs.YtbjgknoipbekoaaGreat
