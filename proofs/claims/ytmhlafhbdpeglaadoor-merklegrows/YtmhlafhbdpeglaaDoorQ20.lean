/-
  MerkleGrows: the two roots, each behind an empty row (a region that draws its order).
-/
import Derived.Test.YtmhlafhbdpeglaaDoorQ15
import Derived.Test.YtmhlafhbdpeglaaDoorQ19
namespace Go.Proofs.YtmhlafhbdpeglaaDoor
open Go.RowKit
def join9 (w3 : World) (F G : Bs) : Act → Act → World → Prop := fun a0 a' w' => Slots [67, 68, 69, 70, 71, 72, 73, 74, 75, 76, 77, 78, 18, 19] a0 a' ∧ ∃ w8 w9 v8 v10, a'.tmps.getD 18 undef = v8 ∧ a'.tmps.getD 19 undef = v10 ∧ Row w3 w8 v8 F ∧ Below w8.heap.size w8 w9 ∧ Row w9 w' v10 G
set_option maxRecDepth 100000 in
set_option maxHeartbeats 40000000 in
theorem region9 {w3 : World} {B a b N lc : Nat} {s : Option Addr} {F G : Bs} {Q0 : Exit → Act → World → Prop} {x0 x3 x4 x5 x6 x7 x8 x9 x10 x11 x12 x13 x14 x15 x17 x18 x19 x20 x21 x22 x23 x24 x25 x26 x27 x28 x29 x30 x31 x32 x33 x34 x35 x36 x37 x38 x39 x40 x41 x42 x43 x44 x45 x46 x47 x48 x49 x50 x51 x52 x53 x54 x55 x56 x57 x58 x59 x60 x61 x62 x63 x64 x65 x66 x67 x68 x69 x70 x71 x72 x73 x74 x75 x76 x77 x78 x79 x80 x81 x82 x83 x84 x85 x86 x87 x88 x89 x90 x91 x92 x93 x94 x95 x96 x97 x98 x99 x100 x101 x102 x103 x104 x105 x106 x107 x108 x109 x110 x111 x112 x113 x114 x115 x116 x117 x118 x119 x120 x121 x122 x123 x124 x125 x126 x127 x128 x129 x130 x131 x132 x133 x134 x135 x136 x137 x138 x139 x140 x141 x142 x143 x144 x145 x146 x147 x148 x149 x150 x151 x152 x153 x154 x155 x156 x157 x158 x159 x160 x161 x162 x163 x164 x165 x166 x167 x168 x169 x170 x171 x172 x173 x174 x175 x176 : Value}
    (hsA : ∀ W, (Instr.sliceAt 22 (.slice s N lc) none (some (.int .i64 (a : Int))) none).run Tryd.prog W = .ok (.slice s a lc) W)
    (hsB : ∀ W, (Instr.sliceAt 22 (.slice s N lc) none (some (.int .i64 (b : Int))) none).run Tryd.prog W = .ok (.slice s b lc) W)
    (HA : Hid (∀ W, Below w3.heap.size w3 W → TellsR B W 15 #[.slice s a lc] F)) (HG : Hid (∀ W, Below w3.heap.size w3 W → TellsR B W 15 #[.slice s b lc] G))
    (HF32 : Hid (F.length = 32)) (HG32 : Hid (G.length = 32))
    (hQ0 : ∀ a' w', join9 w3 F G ⟨#[x0, .int .i64 (a : Int), .int .i64 (b : Int), x3, x4, x5, x6, x7, x8, x9, x10, x11, x12, x13, x14, x15, .slice s N lc, x17, x18, x19, x20, x21, x22, x23, x24, x25, x26, x27, x28, x29, x30, x31, x32, x33, x34, x35, x36, x37, x38, x39, x40, x41, x42, x43, x44, x45, x46, x47, x48, x49, x50, x51, x52, x53, x54, x55, x56, x57, x58, x59, x60, x61, x62, x63, x64, x65, x66, x67, x68, x69, x70, x71, x72, x73, x74, x75, x76, x77, x78, x79, x80, x81, x82, x83, x84, x85, x86, x87, x88, x89, x90, x91, x92, x93, x94, x95, x96, x97, x98, x99, x100, x101, x102, x103, x104, x105, x106, x107, x108, x109, x110, x111, x112, x113, x114, x115, x116, x117, x118, x119, x120, x121, x122, x123, x124, x125, x126, x127, x128, x129, x130, x131, x132, x133, x134, x135, x136, x137, x138, x139, x140, x141, x142, x143, x144, x145, x146, x147, x148, x149, x150, x151, x152, x153, x154, x155, x156, x157, x158, x159, x160, x161, x162, x163, x164, x165, x166, x167, x168, x169, x170, x171, x172, x173, x174, x175, x176], []⟩ a' w' → Q0 .normal a' w') :
    (Code.region 9 #[{ dst := some 67, op := Op.buildSlice 28 0 #[], type := 28, pos := "law.go:181", after := #[], guard := none }, { dst := some 68, op := Op.move (Operand.tmp 16), type := 22, pos := "law.go:181", after := #[], guard := none }, { dst := some 69, op := Op.move (Operand.tmp 1), type := 3, pos := "law.go:181", after := #[], guard := none }, { dst := some 70, op := Op.slice 22 (Operand.tmp 68) none (some (Operand.tmp 69)) none, type := 22, pos := "law.go:181", after := #[{ on := 1, ground := Ground.data }, { on := 2, ground := Ground.data }], guard := none }, { dst := some 71, op := Op.call { callee := Callee.value (Operand.func 15), args := #[Operand.tmp 70], argTypes := #[22] }, type := 28, pos := "law.go:181", after := #[{ on := 3, ground := Ground.data }], guard := none }, { dst := some 72, op := Op.call { callee := Callee.builtin Builtin.append, args := #[Operand.tmp 67, Operand.tmp 71], argTypes := #[28, 28] }, type := 28, pos := "law.go:181", after := #[{ on := 0, ground := Ground.data }, { on := 4, ground := Ground.data }, { on := 4, ground := Ground.chain }], guard := none }, { dst := some 73, op := Op.buildSlice 28 0 #[], type := 28, pos := "law.go:181", after := #[], guard := none }, { dst := some 74, op := Op.move (Operand.tmp 16), type := 22, pos := "law.go:181", after := #[], guard := none }, { dst := some 75, op := Op.move (Operand.tmp 2), type := 3, pos := "law.go:181", after := #[], guard := none }, { dst := some 76, op := Op.slice 22 (Operand.tmp 74) none (some (Operand.tmp 75)) none, type := 22, pos := "law.go:181", after := #[{ on := 7, ground := Ground.data }, { on := 8, ground := Ground.data }], guard := none }, { dst := some 77, op := Op.call { callee := Callee.value (Operand.func 15), args := #[Operand.tmp 76], argTypes := #[22] }, type := 28, pos := "law.go:181", after := #[{ on := 9, ground := Ground.data }, { on := 5, ground := Ground.chain }], guard := none }, { dst := some 78, op := Op.call { callee := Callee.builtin Builtin.append, args := #[Operand.tmp 73, Operand.tmp 77], argTypes := #[28, 28] }, type := 28, pos := "law.go:181", after := #[{ on := 6, ground := Ground.data }, { on := 10, ground := Ground.data }, { on := 10, ground := Ground.chain }], guard := none }, { dst := some 18, op := Op.assign (Operand.tmp 72), type := 28, pos := "law.go:181", after := #[{ on := 5, ground := Ground.data }, { on := 11, ground := Ground.chain }, { on := 0, ground := Ground.phase }, { on := 1, ground := Ground.phase }, { on := 2, ground := Ground.phase }, { on := 3, ground := Ground.phase }, { on := 4, ground := Ground.phase }, { on := 5, ground := Ground.phase }, { on := 6, ground := Ground.textOnly Departure.lateStores }, { on := 7, ground := Ground.textOnly Departure.lateStores }, { on := 8, ground := Ground.textOnly Departure.lateStores }, { on := 9, ground := Ground.textOnly Departure.lateStoresUnsure }, { on := 10, ground := Ground.textOnly Departure.lateStoresUnsure }, { on := 11, ground := Ground.textOnly Departure.lateStoresUnsure }], guard := none }, { dst := some 19, op := Op.assign (Operand.tmp 78), type := 28, pos := "law.go:181", after := #[{ on := 11, ground := Ground.data }, { on := 12, ground := Ground.chain }, { on := 0, ground := Ground.phase }, { on := 1, ground := Ground.phase }, { on := 2, ground := Ground.phase }, { on := 3, ground := Ground.phase }, { on := 4, ground := Ground.phase }, { on := 5, ground := Ground.phase }, { on := 6, ground := Ground.phase }, { on := 7, ground := Ground.phase }, { on := 8, ground := Ground.phase }, { on := 9, ground := Ground.phase }, { on := 10, ground := Ground.phase }, { on := 11, ground := Ground.phase }, { on := 12, ground := Ground.phase }], guard := none }] true).wp Tryd.prog Q0 ⟨#[x0, .int .i64 (a : Int), .int .i64 (b : Int), x3, x4, x5, x6, x7, x8, x9, x10, x11, x12, x13, x14, x15, .slice s N lc, x17, x18, x19, x20, x21, x22, x23, x24, x25, x26, x27, x28, x29, x30, x31, x32, x33, x34, x35, x36, x37, x38, x39, x40, x41, x42, x43, x44, x45, x46, x47, x48, x49, x50, x51, x52, x53, x54, x55, x56, x57, x58, x59, x60, x61, x62, x63, x64, x65, x66, x67, x68, x69, x70, x71, x72, x73, x74, x75, x76, x77, x78, x79, x80, x81, x82, x83, x84, x85, x86, x87, x88, x89, x90, x91, x92, x93, x94, x95, x96, x97, x98, x99, x100, x101, x102, x103, x104, x105, x106, x107, x108, x109, x110, x111, x112, x113, x114, x115, x116, x117, x118, x119, x120, x121, x122, x123, x124, x125, x126, x127, x128, x129, x130, x131, x132, x133, x134, x135, x136, x137, x138, x139, x140, x141, x142, x143, x144, x145, x146, x147, x148, x149, x150, x151, x152, x153, x154, x155, x156, x157, x158, x159, x160, x161, x162, x163, x164, x165, x166, x167, x168, x169, x170, x171, x172, x173, x174, x175, x176], []⟩ w3 := by
    have HFne : Hid (F ≠ []) := fun e => by have := unhide HF32; rw [e] at this; simp at this
    have HGne : Hid (G ≠ []) := fun e => by have := unhide HG32; rw [e] at this; simp at this
    have hb1s : ∀ u : World, Below u.heap.size u (u.alloc (.cells #[] 5)) := fun u => (Below.refl _ _).alloc (Nat.le_refl _) _
    have hb2s : ∀ u : World, Below u.heap.size u ((u.alloc (.cells #[] 5)).alloc (.cells #[] 5)) := fun u => (hb1s u).alloc (hb1s u).size _
    have b0 : Below w3.heap.size w3 w3.drew := (Below.refl _ _).drew
    have b1 : Below w3.heap.size w3 (w3.drew.alloc (.cells #[] 5)) := b0.alloc (Nat.le_refl _) _
    have b2 : Below w3.heap.size w3 ((w3.drew.alloc (.cells #[] 5)).alloc (.cells #[] 5)) := b1.alloc b1.size _
    have HB0 := hide b0
    have HB1 := hide b1
    have HB2 := hide b2
    have H1s := hide hb1s
    have H2s := hide hb2s
    clear b0 b1 b2 hb1s hb2s
    refine wp_region_noPanic ?_
    go_region_law (first
      | (refine step_append_new (w0 := w7) (w1 := w3) rfl _ _ rfl _ _ F (by simp [Act.eval]; rfl) (by simp [Act.eval]) (unhide HV7) (by first | exact Below.refl _ _ | exact unhide H1s w7 | exact unhide H2s w7) (by first | exact unhide HB7 | exact (unhide HB7).alloc (unhide HB7).size _ | exact ((unhide HB7).alloc (unhide HB7).size _).alloc ((unhide HB7).alloc (unhide HB7).size _).size _) (unhide HFne) (by have := unhide HF32; omega) ?_
         intro v8 w8 hR8
         have HR8 := hide hR8
         clear hR8)
      | (refine step_append_new (w0 := w9) (w1 := w9) rfl _ _ rfl _ _ G (by simp [Act.eval]; rfl) (by simp [Act.eval]) (unhide HV9) (by first | exact Below.refl _ _ | exact unhide H1s w9) (by first | exact Below.refl _ _ | exact unhide H1s w9) (unhide HGne) (by have := unhide HG32; omega) ?_
         intro v10 w10 hR10
         have HR10 := hide hR10
         clear hR10)
      | (go_simp
         go_at_call_of 15 (Value.slice s a lc)
         first
           | (refine (unhide HA _ (unhide HB0)).mono ?_
              rintro e w7 ⟨v7, rfl, hv7, hb7, _⟩
              have HB7 := hide ((unhide HB0).trans (hb7.mono (unhide HB0).size))
              have HV7 := hide hv7
              clear hv7 hb7)
           | (refine (unhide HA _ (unhide HB1)).mono ?_
              rintro e w7 ⟨v7, rfl, hv7, hb7, _⟩
              have HB7 := hide ((unhide HB1).trans (hb7.mono (unhide HB1).size))
              have HV7 := hide hv7
              clear hv7 hb7)
           | (refine (unhide HA _ (unhide HB2)).mono ?_
              rintro e w7 ⟨v7, rfl, hv7, hb7, _⟩
              have HB7 := hide ((unhide HB2).trans (hb7.mono (unhide HB2).size))
              have HV7 := hide hv7
              clear hv7 hb7)
         go_simp)
      | (go_simp
         go_at_call_of 15 (Value.slice s b lc)
         first
           | (refine (unhide HG w8 (unhide HR8).b).mono ?_
              rintro e w9 ⟨v9, rfl, hv9, hb9, _⟩
              have HB9 := hide hb9
              have HV9 := hide hv9
              clear hv9 hb9)
           | (refine (unhide HG (w8.alloc (.cells #[] 5)) ((unhide HR8).b.alloc (unhide HR8).b.size _)).mono ?_
              rintro e w9 ⟨v9, rfl, hv9, hb9, _⟩
              have HB9 := hide ((unhide H1s w8).trans (hb9.mono (unhide H1s w8).size))
              have HV9 := hide hv9
              clear hv9 hb9)
         go_simp))
    all_goals exact NoPanic.normal (hQ0 _ _ ⟨by unfold Slots; kernel_rfl, w8, w9, v8, v10, by kernel_rfl, by kernel_rfl, unhide HR8, unhide HB9, unhide HR10⟩)
end Go.Proofs.YtmhlafhbdpeglaaDoor
