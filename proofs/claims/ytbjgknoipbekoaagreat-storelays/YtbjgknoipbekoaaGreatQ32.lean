/-
  StoreLays: the reference's Commit of the plain changes, into a variable that has just been made (a region that draws its order).
-/
import Derived.Test.YtbjgknoipbekoaaGreatQ31
namespace Go.Proofs.YtbjgknoipbekoaaGreat
open Go.RowKit
/-- Slots that are written. -/
def puts (a : Act) (l : List (Nat × Value)) : Act := l.foldl (fun a x => a.put (some x.1) x.2) a
/-- The second frame is the first one but for these slots. -/
def Slots (L : List Nat) (a a' : Act) : Prop := a' = puts a (L.map fun i => (i, a'.tmps.getD i undef))
/-- THE ENDS OF A REGION BROUGHT TO ONE: F says how it ends, whatever the order. -/
theorem region_join {P : Program} {id : Nat} {ops : Array Oper} {b : Bool} {Q : Exit → Act → World → Prop} {a : Act} {w : World} (F : Act → Act → World → Prop) (h1 : ∀ Q0 : Exit → Act → World → Prop, (∀ a' w', F a a' w' → Q0 .normal a' w') → (Code.region id ops b).wp P Q0 a w) (h2 : ∀ a' w', F a a' w' → Q .normal a' w') : (Code.region id ops b).wp P Q a w :=
  Code.wp_mono (fun e a' w' (h : e = .normal ∧ F a a' w') => by obtain ⟨rfl, h⟩ := h; exact h2 a' w' h) (h1 (fun e a' w' => e = .normal ∧ F a a' w') fun a' w' h => ⟨rfl, h⟩)
def join16 (wr : World) (B : Set_) (A12 H1 g1 u1 NP1 : Nat) (code : Int) (ps1 : List (Bs × Bs)) : Act → Act → World → Prop := fun a0 a' w' => Slots [12, 13, 63, 64, 65, 66, 67, 68, 69] a0 a' ∧ ∃ A15 sz cz, a'.tmps.getD 12 undef = .pointer (some ⟨A15, 0, none⟩) ∧ a'.tmps.getD 13 undef = .int .i64 code ∧ R4 w' A15 (.int .i64 (H1 : Int)) (.int .i64 (g1 : Int)) (.int .i64 (u1 : Int)) (.slice sz NP1 cz) ∧ PrsAt (fun k => ¬ B k ∧ k ≠ A12 ∧ k ≠ A15) w' (.slice sz NP1 cz) ps1 ∧ Below wr.heap.size wr w' ∧ wr.heap.size ≤ A15
set_option maxRecDepth 100000 in
set_option maxHeartbeats 40000000 in
theorem region16 {w wr : World} {B : Set_} {A12 H g u n6 c6 M c14 H1 g1 u1 : Nat} {code : Int} {s6 s14 : Option Addr} {ps ps1 : List (Bs × Bs)} {l : List Ch} {Q0 : Exit → Act → World → Prop} {x0 x1 x2 x3 x4 x5 x6 x7 x9 x10 x12 x13 x14 x15 x16 x17 x18 x19 x20 x21 x22 x23 x24 x25 x26 x27 x28 x29 x30 x31 x32 x33 x34 x35 x36 x37 x38 x39 x40 x41 x42 x43 x44 x45 x46 x47 x48 x49 x50 x51 x52 x53 x54 x55 x56 x57 x58 x59 x60 x61 x62 x63 x64 x65 x66 x67 x68 x69 x70 x71 x72 x73 x74 x75 x76 x77 x78 x79 x80 x81 x82 x83 x84 x85 x86 x87 x88 x89 x90 x91 x92 x93 x94 x95 x96 x97 x98 x99 x100 x101 x102 x103 x104 x105 x106 x107 x108 x109 x110 x111 x112 x113 x114 x115 x116 x117 x118 x119 x120 x121 x122 x123 x124 x125 x126 x127 x128 x129 x130 x131 x132 x133 x134 x135 x136 x137 x138 x139 x140 x141 x142 x143 x144 x145 x146 x147 x148 x149 x150 x151 x152 x153 x154 x155 x156 x157 x158 x159 x160 x161 x162 x163 x164 x165 x166 x167 x168 x169 x170 x171 x172 x173 : Value}
    (HM : Hid (l.length = M)) (HR : Hid (RV w wr B (fun j => j = A12) A12 ps H g u (.slice s6 n6 c6))) (hIB : ∀ k, B k → w.heap.size ≤ k ∧ k < wr.heap.size)
    (Hpl : Hid (∀ w', Below wr.heap.size wr w' → Calls Tryz.prog 13 #[.slice s14 M c14] w' fun e w'' => ∃ v, e = .returned v ∧ ChsAt (fun k => (k < w.heap.size ∨ w'.heap.size ≤ k) ∧ k < w''.heap.size) w'' v l ∧ Below w'.heap.size w' w''))
    (Hcm : Hid (∀ w' w5 w'' v, Below wr.heap.size wr w' → Below w'.heap.size w' w5 → ChsAt (fun k => (k < w.heap.size ∨ w'.heap.size ≤ k) ∧ k < w5.heap.size) w5 v l → Below w5.heap.size w5 w'' → Calls Tryz.prog 12 #[.agg #[.int .i64 (H : Int), .int .i64 (g : Int), .int .i64 (u : Int), .slice s6 n6 c6], v] w'' fun e w6 => ∃ q, e = .returned (.tuple #[.agg #[.int .i64 (H1 : Int), .int .i64 (g1 : Int), .int .i64 (u1 : Int), q], .int .i64 code]) ∧ PrsAt (fun k => ((¬ B k ∧ k ≠ A12 ∧ k < wr.heap.size) ∨ (w'.heap.size ≤ k ∧ k < w5.heap.size) ∨ w''.heap.size ≤ k) ∧ k < w6.heap.size) w6 q ps1 ∧ Below w''.heap.size w'' w6))
    (hQ0 : ∀ a' w', join16 wr B A12 H1 g1 u1 ps1.length code ps1 ⟨#[x0, x1, x2, x3, x4, x5, x6, x7, .pointer (some ⟨A12, 0, none⟩), x9, x10, .slice s14 M c14, x12, x13, x14, x15, x16, x17, x18, x19, x20, x21, x22, x23, x24, x25, x26, x27, x28, x29, x30, x31, x32, x33, x34, x35, x36, x37, x38, x39, x40, x41, x42, x43, x44, x45, x46, x47, x48, x49, x50, x51, x52, x53, x54, x55, x56, x57, x58, x59, x60, x61, x62, x63, x64, x65, x66, x67, x68, x69, x70, x71, x72, x73, x74, x75, x76, x77, x78, x79, x80, x81, x82, x83, x84, x85, x86, x87, x88, x89, x90, x91, x92, x93, x94, x95, x96, x97, x98, x99, x100, x101, x102, x103, x104, x105, x106, x107, x108, x109, x110, x111, x112, x113, x114, x115, x116, x117, x118, x119, x120, x121, x122, x123, x124, x125, x126, x127, x128, x129, x130, x131, x132, x133, x134, x135, x136, x137, x138, x139, x140, x141, x142, x143, x144, x145, x146, x147, x148, x149, x150, x151, x152, x153, x154, x155, x156, x157, x158, x159, x160, x161, x162, x163, x164, x165, x166, x167, x168, x169, x170, x171, x172, x173], []⟩ a' w' → Q0 .normal a' w') :
    (Code.region 16 #[{ dst := some 64, op := Op.load 34 (Operand.tmp 8), type := 34, pos := "law.go:212", after := #[], guard := none }, { dst := some 65, op := Op.move (Operand.tmp 11), type := 36, pos := "law.go:212", after := #[], guard := none }, { dst := some 66, op := Op.call { callee := Callee.value (Operand.func 13), args := #[Operand.tmp 65], argTypes := #[36] }, type := 39, pos := "law.go:212", after := #[{ on := 1, ground := Ground.data }], guard := none }, { dst := some 67, op := Op.call { callee := Callee.value (Operand.func 12), args := #[Operand.tmp 64, Operand.tmp 66], argTypes := #[34, 39] }, type := 37, pos := "law.go:212", after := #[{ on := 0, ground := Ground.data }, { on := 2, ground := Ground.data }, { on := 2, ground := Ground.chain }], guard := none }, { dst := some 63, op := Op.move (Operand.tmp 67), type := 37, pos := "law.go:212", after := #[{ on := 3, ground := Ground.data }], guard := none }, { dst := some 68, op := Op.extract (Operand.tmp 63) 0, type := 34, pos := "law.go:212", after := #[{ on := 4, ground := Ground.data }], guard := none }, { dst := some 69, op := Op.extract (Operand.tmp 63) 1, type := 3, pos := "law.go:212", after := #[{ on := 4, ground := Ground.data }, { on := 8, ground := Ground.gcOnly Departure.lateStores }], guard := none }, { dst := some 12, op := Op.alloc 34, type := 0, pos := "law.go:212", after := #[], guard := none }, { dst := none, op := Op.store 34 (Operand.tmp 12) (Operand.tmp 68), type := 0, pos := "law.go:212", after := #[{ on := 7, ground := Ground.data }, { on := 5, ground := Ground.data }, { on := 3, ground := Ground.chain }, { on := 0, ground := Ground.phase }, { on := 1, ground := Ground.phase }, { on := 2, ground := Ground.phase }, { on := 3, ground := Ground.phase }, { on := 4, ground := Ground.phase }, { on := 5, ground := Ground.phase }, { on := 6, ground := Ground.textOnly Departure.lateStores }, { on := 7, ground := Ground.phase }], guard := none }, { dst := some 13, op := Op.assign (Operand.tmp 69), type := 3, pos := "law.go:212", after := #[{ on := 6, ground := Ground.data }, { on := 8, ground := Ground.chain }, { on := 0, ground := Ground.phase }, { on := 1, ground := Ground.phase }, { on := 2, ground := Ground.phase }, { on := 3, ground := Ground.phase }, { on := 4, ground := Ground.phase }, { on := 5, ground := Ground.phase }, { on := 6, ground := Ground.phase }, { on := 7, ground := Ground.phase }, { on := 8, ground := Ground.phase }], guard := none }] true).wp Tryz.prog Q0 ⟨#[x0, x1, x2, x3, x4, x5, x6, x7, .pointer (some ⟨A12, 0, none⟩), x9, x10, .slice s14 M c14, x12, x13, x14, x15, x16, x17, x18, x19, x20, x21, x22, x23, x24, x25, x26, x27, x28, x29, x30, x31, x32, x33, x34, x35, x36, x37, x38, x39, x40, x41, x42, x43, x44, x45, x46, x47, x48, x49, x50, x51, x52, x53, x54, x55, x56, x57, x58, x59, x60, x61, x62, x63, x64, x65, x66, x67, x68, x69, x70, x71, x72, x73, x74, x75, x76, x77, x78, x79, x80, x81, x82, x83, x84, x85, x86, x87, x88, x89, x90, x91, x92, x93, x94, x95, x96, x97, x98, x99, x100, x101, x102, x103, x104, x105, x106, x107, x108, x109, x110, x111, x112, x113, x114, x115, x116, x117, x118, x119, x120, x121, x122, x123, x124, x125, x126, x127, x128, x129, x130, x131, x132, x133, x134, x135, x136, x137, x138, x139, x140, x141, x142, x143, x144, x145, x146, x147, x148, x149, x150, x151, x152, x153, x154, x155, x156, x157, x158, x159, x160, x161, x162, x163, x164, x165, x166, x167, x168, x169, x170, x171, x172, x173], []⟩ wr := by
    obtain ⟨r0, r1, r2, r3⟩ := (unhide HR).cells
    obtain ⟨NP1, hNP1⟩ : ∃ y, ps1.length = y := ⟨_, rfl⟩
    rw [hNP1] at hQ0
    have HNP1 := hide hNP1
    clear hNP1
    have q0 : wr.drew.cell? ⟨A12, 0, none⟩ = some (.int .i64 (H : Int)) := r0
    have q1 : wr.drew.cell? ⟨A12, 1, none⟩ = some (.int .i64 (g : Int)) := r1
    have q2 : wr.drew.cell? ⟨A12, 2, none⟩ = some (.int .i64 (u : Int)) := r2
    have q3 : wr.drew.cell? ⟨A12, 3, none⟩ = some (.slice s6 n6 c6) := r3
    obtain ⟨Wz, hWz⟩ : ∃ y, wr.drew.alloc (.cells #[.int .i64 0, .int .i64 0, .int .i64 0, .slice none 0 0] 34) = y := ⟨_, rfl⟩
    have hbz : Below wr.heap.size wr Wz := by rw [← hWz]; exact (Below.refl _ _).drew.alloc (Nat.le_refl _) _
    have HZz : Hid (R4 Wz wr.heap.size (.int .i64 0) (.int .i64 0) (.int .i64 0) (.slice none 0 0)) := by show R4 _ _ _ _ _ _; unfold R4; rw [← hWz]; exact (MapKept.heap_alloc wr.drew _).1
    have HBz := hide hbz
    obtain ⟨y0, y1, y2, y3⟩ := ((unhide HR).below hbz).cells
    clear hbz
    refine wp_region_noPanic ?_
    go_region_law (first
      | (go_simp
         go_at_call 13
         (first
           | (refine (unhide Hpl Wz (unhide HBz)).mono ?_
              rintro e w5 ⟨v5, rfl, hc5, hb5⟩
              have Hcm5 := hide (fun w'' (hb : Below w5.heap.size w5 w'') => unhide Hcm Wz w5 w'' v5 (unhide HBz) hb5 hc5 hb)
              have hz5 := (unhide HZz).below hb5
              have hzs := hb5.size
              have HB5 := hide ((unhide HBz).trans (hb5.mono (unhide HBz).size)))
           | (refine (unhide Hpl wr.drew (Below.refl _ _).drew).mono ?_
              rintro e w5 ⟨v5, rfl, hc5, hb5⟩
              have Hcm5 := hide (fun w'' (hb : Below w5.heap.size w5 w'') => unhide Hcm wr.drew w5 w'' v5 (Below.refl _ _).drew hb5 hc5 hb)
              have hz5 : True := trivial
              have hzs : wr.heap.size ≤ w5.heap.size := hb5.size
              have HB5 : Hid (Below wr.heap.size wr w5) := (Below.refl _ _).drew.trans hb5))
         obtain ⟨s5, c5, e5, _⟩ := id hc5.form
         rw [unhide HM] at e5
         subst e5
         obtain ⟨x0, x1, x2, x3⟩ := ((unhide HR).below (unhide HB5)).cells
         obtain ⟨Wy, hWy⟩ : ∃ y, w5.alloc (.cells #[.int .i64 0, .int .i64 0, .int .i64 0, .slice none 0 0] 34) = y := ⟨_, rfl⟩
         have hby : Below w5.heap.size w5 Wy := by rw [← hWy]; exact (Below.refl _ _).alloc (Nat.le_refl _) _
         have HZy : Hid (R4 Wy w5.heap.size (.int .i64 0) (.int .i64 0) (.int .i64 0) (.slice none 0 0)) := by show R4 _ _ _ _ _ _; unfold R4; rw [← hWy]; exact (MapKept.heap_alloc w5 _).1
         have HBy := hide hby
         obtain ⟨v0, v1, v2, v3⟩ := ((unhide HR).below ((unhide HB5).trans (hby.mono (unhide HB5).size))).cells
         clear hc5 hb5 hby
         go_simp)
      | (go_simp
         go_at_call 12
         (first
           | (refine (unhide Hcm5 Wy (unhide HBy)).mono ?_
              rintro e w6 ⟨q6, rfl, hq6, hb6⟩
              have hz6 := (unhide HZy).below hb6
              obtain ⟨a0, a1, a2, a3⟩ := hz6.cells
              obtain ⟨b0, b1, b2, b3⟩ := hz6.frozen
              have HB6 := hide ((unhide HB5).trans (((unhide HBy).trans (hb6.mono (unhide HBy).size)).mono (unhide HB5).size)))
           | (refine (unhide Hcm5 w5 (Below.refl _ _)).mono ?_
              rintro e w6 ⟨q6, rfl, hq6, hb6⟩
              (first
                | (have hz6 := R4.below hz5 hb6
                   obtain ⟨a0, a1, a2, a3⟩ := hz6.cells
                   obtain ⟨b0, b1, b2, b3⟩ := hz6.frozen)
                | skip)
              have HB6 := hide ((unhide HB5).trans (hb6.mono (unhide HB5).size))))
         obtain ⟨sz, cz, e6, _⟩ := id hq6.form
         rw [unhide HNP1] at e6
         subst e6
         have HQ6 := hide hq6
         clear hq6 hb6
         go_simp))
    all_goals
      have hA12l := lt_of_row (unhide HR).row
      have hzl : wr.heap.size < Wz.heap.size := lt_of_row (unhide HZz)
      have hyl : w5.heap.size < Wy.heap.size := lt_of_row (unhide HZy)
      have h56 := (unhide HB5).size
      have hdr : wr.drew.heap.size = wr.heap.size := rfl
      first
        | (obtain ⟨W, hW⟩ : ∃ y, w6.alloc (.cells #[.int .i64 (H1 : Int), .int .i64 (g1 : Int), .int .i64 (u1 : Int), .slice sz NP1 cz] 34) = y := ⟨_, rfl⟩
           rw [hW]
           have hb7 : Below w6.heap.size w6 W := by rw [← hW]; exact (Below.refl _ _).alloc (Nat.le_refl _) _
           have HR15 : Hid (R4 W w6.heap.size (.int .i64 (H1 : Int)) (.int .i64 (g1 : Int)) (.int .i64 (u1 : Int)) (.slice sz NP1 cz)) := by show R4 _ _ _ _ _ _; unfold R4; rw [← hW]; exact (MapKept.heap_alloc w6 _).1
           have HQ7 : Hid (PrsAt (fun k => ¬ B k ∧ k ≠ A12 ∧ k ≠ w6.heap.size) W (.slice sz NP1 cz) ps1) := ((unhide HQ6).mono (K' := fun k => ¬ B k ∧ k ≠ A12 ∧ k ≠ w6.heap.size) fun k hk h => by
             rcases h.1 with h1 | h1 | h1
             · exact ⟨h1.1, h1.2.1, by omega⟩
             · exact ⟨fun hB => by have := (hIB k hB).2; omega, by omega, by omega⟩
             · exact ⟨fun hB => by have := (hIB k hB).2; omega, by omega, by omega⟩).below hb7
           have HB7 := hide ((unhide HB6).trans (hb7.mono (unhide HB6).size))
           have HG15 : Hid (wr.heap.size ≤ w6.heap.size) := (unhide HB6).size
           obtain ⟨A15, hA15⟩ : ∃ y, w6.heap.size = y := ⟨_, rfl⟩
           rw [hA15] at HR15 HQ7 HG15 ⊢
           clear hW hb7 hA15)
        | (have hr7 := R4.put (a' := .int .i64 (H1 : Int)) (b' := .int .i64 (g1 : Int)) (c' := .int .i64 (u1 : Int)) (d' := .slice sz NP1 cz) hz6
           have a7 := put4_aside w6 wr.heap.size (.int .i64 (H1 : Int)) (.int .i64 (g1 : Int)) (.int .i64 (u1 : Int)) (.slice sz NP1 cz)
           have HQ7 := hide (((unhide HQ6).mono (K' := fun k => ¬ B k ∧ k ≠ A12 ∧ k ≠ wr.heap.size) fun k hk h => by
             rcases h.1 with h1 | h1 | h1
             · exact ⟨h1.1, h1.2.1, by omega⟩
             · exact ⟨fun hB => by have := (hIB k hB).2; omega, by omega, by omega⟩
             · exact ⟨fun hB => by have := (hIB k hB).2; omega, by omega, by omega⟩).aside a7 fun k hk h => h.2.2 hk)
           have HB7 := hide ((unhide HB6).trans (a7.below (unhide HB6).size fun k hk => by have h1 : k = wr.heap.size := hk; omega))
           obtain ⟨W, hW⟩ : ∃ y, put4 w6 wr.heap.size (.int .i64 (H1 : Int)) (.int .i64 (g1 : Int)) (.int .i64 (u1 : Int)) (.slice sz NP1 cz) = y := ⟨_, rfl⟩
           have HR15 : Hid (R4 W wr.heap.size (.int .i64 (H1 : Int)) (.int .i64 (g1 : Int)) (.int .i64 (u1 : Int)) (.slice sz NP1 cz)) := by show R4 _ _ _ _ _ _; rw [← hW]; exact hr7
           rw [hW] at HQ7 HB7
           unfold put4 at hW
           rw [hW]
           have HG15 : Hid (wr.heap.size ≤ wr.heap.size) := Nat.le_refl _
           obtain ⟨A15, hA15⟩ : ∃ y, wr.heap.size = y := ⟨_, rfl⟩
           rw [hA15] at HR15 HQ7 ⊢
           have HG15 : Hid (wr.heap.size ≤ A15) := Nat.le_of_eq hA15
           clear hW hA15 hr7 a7)
        | (have hr7 := R4.put (a' := .int .i64 (H1 : Int)) (b' := .int .i64 (g1 : Int)) (c' := .int .i64 (u1 : Int)) (d' := .slice sz NP1 cz) hz6
           have a7 := put4_aside w6 w5.heap.size (.int .i64 (H1 : Int)) (.int .i64 (g1 : Int)) (.int .i64 (u1 : Int)) (.slice sz NP1 cz)
           have HQ7 := hide (((unhide HQ6).mono (K' := fun k => ¬ B k ∧ k ≠ A12 ∧ k ≠ w5.heap.size) fun k hk h => by
             rcases h.1 with h1 | h1 | h1
             · exact ⟨h1.1, h1.2.1, by omega⟩
             · exact ⟨fun hB => by have := (hIB k hB).2; omega, by omega, by omega⟩
             · exact ⟨fun hB => by have := (hIB k hB).2; omega, by omega, by omega⟩).aside a7 fun k hk h => h.2.2 hk)
           have HB7 := hide ((unhide HB6).trans (a7.below (unhide HB6).size fun k hk => by have h1 : k = w5.heap.size := hk; omega))
           obtain ⟨W, hW⟩ : ∃ y, put4 w6 w5.heap.size (.int .i64 (H1 : Int)) (.int .i64 (g1 : Int)) (.int .i64 (u1 : Int)) (.slice sz NP1 cz) = y := ⟨_, rfl⟩
           have HR15 : Hid (R4 W w5.heap.size (.int .i64 (H1 : Int)) (.int .i64 (g1 : Int)) (.int .i64 (u1 : Int)) (.slice sz NP1 cz)) := by show R4 _ _ _ _ _ _; rw [← hW]; exact hr7
           rw [hW] at HQ7 HB7
           unfold put4 at hW
           rw [hW]
           have HG15 : Hid (wr.heap.size ≤ w5.heap.size) := (unhide HB5).size
           obtain ⟨A15, hA15⟩ : ∃ y, w5.heap.size = y := ⟨_, rfl⟩
           rw [hA15] at HR15 HQ7 HG15 ⊢
           clear hW hA15 hr7 a7)
      exact NoPanic.normal (hQ0 _ _ ⟨by unfold Slots; kernel_rfl, A15, sz, cz, by kernel_rfl, by kernel_rfl, unhide HR15, unhide HQ7, unhide HB7, unhide HG15⟩)
end Go.Proofs.YtbjgknoipbekoaaGreat
