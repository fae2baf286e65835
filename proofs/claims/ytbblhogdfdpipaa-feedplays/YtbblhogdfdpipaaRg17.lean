/-
  FeedPlays: a thing is put behind the others of a box (a region that draws its order).
-/
import Derived.Test.YtbblhogdfdpipaaPd17
namespace Go.Proofs.Ytbblhogdfdpipaa
open Go.RowKit
def join34 (wr : World) (g j : Nat) (l : List Int) (OV : Int) : Act → Act → World → Prop := fun a0 a' w' => Slots [104, 105, 106, 107, 108, 109, 110, 111, 112, 113, 114, 115, 116, 117, 118] a0 a' ∧ ∃ w4 v4, a'.tmps.getD 116 undef = v4 ∧ Below wr.heap.size wr w4 ∧ OwnV 3 w4 wr.heap.size v4 (ivs (l ++ [OV])) ∧ w' = w4.setCell ⟨g, j * 4 + 3, none⟩ v4
set_option maxRecDepth 100000 in
set_option maxHeartbeats 40000000 in
theorem region34 {wr : World} {g j A L c n2 c2 : Nat} {s2 : Option Addr} {l : List Int} {OV : Int} {Q0 : Exit → Act → World → Prop} {x0 x1 x2 x3 x5 x7 x8 x9 x10 x12 x13 x14 x15 x16 x17 x18 x19 x20 x21 x22 x23 x24 x25 x26 x27 x28 x29 x30 x31 x32 x33 x34 x35 x36 x37 x38 x39 x40 x41 x42 x43 x44 x45 x46 x47 x48 x49 x50 x51 x52 x53 x54 x55 x56 x57 x58 x59 x60 x61 x62 x63 x64 x65 x66 x67 x68 x69 x70 x71 x72 x73 x74 x75 x76 x77 x78 x79 x80 x81 x82 x83 x84 x85 x86 x87 x88 x89 x90 x91 x92 x93 x94 x95 x96 x97 x98 x99 x100 x101 x102 x103 x104 x105 x106 x107 x108 x109 x110 x111 x112 x113 x114 x115 x116 x117 x118 x119 x120 x121 x122 x123 x124 x125 x126 x127 x128 x129 x130 x131 x132 x133 x134 x135 x136 x137 x138 x139 x140 x141 x142 x143 x144 x145 x146 x147 x148 x149 x150 x151 x152 x153 x154 x155 x156 x157 x158 x159 x160 x161 x162 x163 x164 x165 x166 x167 x168 x169 x170 x171 x172 x173 x174 x175 x176 x177 x178 x179 x180 x181 x182 x183 x184 x185 x186 x187 x188 x189 x190 x191 x192 x193 x194 x195 x196 x197 x198 x199 x200 x201 x202 x203 x204 x205 x206 x207 x208 x209 x210 x211 x212 x213 x214 x215 x216 x217 x218 x219 x220 x221 x222 x223 x224 x225 x226 x227 x228 x229 x230 x231 x232 x233 x234 x235 x236 x237 x238 x239 x240 x241 x242 x243 x244 x245 x246 : Value} (hjl : j < L)
    (HQ : Hid (∀ u, Below wr.heap.size wr u → u.cell? ⟨g, j * 4 + 3, none⟩ = some (.slice s2 n2 c2) ∧ u.frozen? ⟨g, j * 4 + 3, none⟩ = false ∧ u.cell? ⟨A, 2, none⟩ = some (.int .i64 OV)))
    (HVS : Hid (ValsAt wr (.slice s2 n2 c2) (ivs l))) (HN2 : Hid (l.length = n2)) (HLL : Hid ((ivs l).length ≤ 256))
    (hQ0 : ∀ a' w', join34 wr g j l OV ⟨#[x0, x1, x2, x3, .slice (some ⟨g, 0, none⟩) L c, x5, .pointer (some ⟨A, 0, none⟩), x7, x8, x9, x10, .int .i64 (j : Int), x12, x13, x14, x15, x16, x17, x18, x19, x20, x21, x22, x23, x24, x25, x26, x27, x28, x29, x30, x31, x32, x33, x34, x35, x36, x37, x38, x39, x40, x41, x42, x43, x44, x45, x46, x47, x48, x49, x50, x51, x52, x53, x54, x55, x56, x57, x58, x59, x60, x61, x62, x63, x64, x65, x66, x67, x68, x69, x70, x71, x72, x73, x74, x75, x76, x77, x78, x79, x80, x81, x82, x83, x84, x85, x86, x87, x88, x89, x90, x91, x92, x93, x94, x95, x96, x97, x98, x99, x100, x101, x102, x103, x104, x105, x106, x107, x108, x109, x110, x111, x112, x113, x114, x115, x116, x117, x118, x119, x120, x121, x122, x123, x124, x125, x126, x127, x128, x129, x130, x131, x132, x133, x134, x135, x136, x137, x138, x139, x140, x141, x142, x143, x144, x145, x146, x147, x148, x149, x150, x151, x152, x153, x154, x155, x156, x157, x158, x159, x160, x161, x162, x163, x164, x165, x166, x167, x168, x169, x170, x171, x172, x173, x174, x175, x176, x177, x178, x179, x180, x181, x182, x183, x184, x185, x186, x187, x188, x189, x190, x191, x192, x193, x194, x195, x196, x197, x198, x199, x200, x201, x202, x203, x204, x205, x206, x207, x208, x209, x210, x211, x212, x213, x214, x215, x216, x217, x218, x219, x220, x221, x222, x223, x224, x225, x226, x227, x228, x229, x230, x231, x232, x233, x234, x235, x236, x237, x238, x239, x240, x241, x242, x243, x244, x245, x246], []⟩ a' w' → Q0 .normal a' w') :
    (Code.region 34 #[{ dst := some 104, op := Op.move (Operand.tmp 4), type := 26, pos := "law.go:73", after := #[], guard := none }, { dst := some 105, op := Op.move (Operand.tmp 11), type := 3, pos := "law.go:73", after := #[], guard := none }, { dst := some 106, op := Op.buildSlice 29 0 #[], type := 29, pos := "law.go:73", after := #[], guard := none }, { dst := some 107, op := Op.move (Operand.tmp 4), type := 26, pos := "law.go:73", after := #[], guard := none }, { dst := some 108, op := Op.move (Operand.tmp 11), type := 3, pos := "law.go:73", after := #[], guard := none }, { dst := some 109, op := Op.indexAddr 26 (Operand.tmp 107) (Operand.tmp 108), type := 0, pos := "law.go:73", after := #[{ on := 3, ground := Ground.data }, { on := 4, ground := Ground.data }], guard := none }, { dst := some 110, op := Op.fieldAddr 31 (Operand.tmp 109) 3, type := 0, pos := "law.go:73", after := #[{ on := 5, ground := Ground.data }], guard := none }, { dst := some 111, op := Op.load 29 (Operand.tmp 110), type := 29, pos := "law.go:73", after := #[{ on := 6, ground := Ground.data }], guard := none }, { dst := some 112, op := Op.call { callee := Callee.builtin Builtin.append, args := #[Operand.tmp 106, Operand.tmp 111], argTypes := #[29, 29] }, type := 29, pos := "law.go:73", after := #[{ on := 2, ground := Ground.data }, { on := 7, ground := Ground.data }], guard := none }, { dst := some 113, op := Op.fieldAddr 28 (Operand.tmp 6) 2, type := 0, pos := "law.go:73", after := #[], guard := none }, { dst := some 114, op := Op.load 3 (Operand.tmp 113), type := 3, pos := "law.go:73", after := #[{ on := 9, ground := Ground.data }], guard := none }, { dst := some 115, op := Op.buildSlice 29 1 #[(0, Operand.tmp 114)], type := 29, pos := "law.go:73", after := #[{ on := 10, ground := Ground.data }], guard := none }, { dst := some 116, op := Op.call { callee := Callee.builtin Builtin.append, args := #[Operand.tmp 112, Operand.tmp 115], argTypes := #[29, 29] }, type := 29, pos := "law.go:73", after := #[{ on := 8, ground := Ground.data }, { on := 11, ground := Ground.data }, { on := 8, ground := Ground.chain }], guard := none }, { dst := some 117, op := Op.indexAddr 26 (Operand.tmp 104) (Operand.tmp 105), type := 0, pos := "law.go:73", after := #[{ on := 0, ground := Ground.data }, { on := 1, ground := Ground.data }, { on := 0, ground := Ground.phase }, { on := 1, ground := Ground.phase }, { on := 2, ground := Ground.phase }, { on := 3, ground := Ground.phase }, { on := 4, ground := Ground.phase }, { on := 5, ground := Ground.phase }, { on := 6, ground := Ground.phase }, { on := 7, ground := Ground.phase }, { on := 8, ground := Ground.phase }, { on := 9, ground := Ground.phase }, { on := 10, ground := Ground.phase }, { on := 11, ground := Ground.phase }, { on := 12, ground := Ground.phase }], guard := none }, { dst := some 118, op := Op.fieldAddr 31 (Operand.tmp 117) 3, type := 0, pos := "law.go:73", after := #[{ on := 13, ground := Ground.data }, { on := 0, ground := Ground.phase }, { on := 1, ground := Ground.phase }, { on := 2, ground := Ground.phase }, { on := 3, ground := Ground.phase }, { on := 4, ground := Ground.phase }, { on := 5, ground := Ground.phase }, { on := 6, ground := Ground.phase }, { on := 7, ground := Ground.phase }, { on := 8, ground := Ground.phase }, { on := 9, ground := Ground.phase }, { on := 10, ground := Ground.phase }, { on := 11, ground := Ground.phase }, { on := 12, ground := Ground.phase }], guard := none }, { dst := none, op := Op.store 29 (Operand.tmp 118) (Operand.tmp 116), type := 0, pos := "law.go:73", after := #[{ on := 14, ground := Ground.data }, { on := 12, ground := Ground.data }, { on := 12, ground := Ground.chain }, { on := 0, ground := Ground.phase }, { on := 1, ground := Ground.phase }, { on := 2, ground := Ground.phase }, { on := 3, ground := Ground.phase }, { on := 4, ground := Ground.phase }, { on := 5, ground := Ground.phase }, { on := 6, ground := Ground.phase }, { on := 7, ground := Ground.phase }, { on := 8, ground := Ground.phase }, { on := 9, ground := Ground.phase }, { on := 10, ground := Ground.phase }, { on := 11, ground := Ground.phase }, { on := 12, ground := Ground.phase }], guard := none }] true).wp Try.prog Q0 ⟨#[x0, x1, x2, x3, .slice (some ⟨g, 0, none⟩) L c, x5, .pointer (some ⟨A, 0, none⟩), x7, x8, x9, x10, .int .i64 (j : Int), x12, x13, x14, x15, x16, x17, x18, x19, x20, x21, x22, x23, x24, x25, x26, x27, x28, x29, x30, x31, x32, x33, x34, x35, x36, x37, x38, x39, x40, x41, x42, x43, x44, x45, x46, x47, x48, x49, x50, x51, x52, x53, x54, x55, x56, x57, x58, x59, x60, x61, x62, x63, x64, x65, x66, x67, x68, x69, x70, x71, x72, x73, x74, x75, x76, x77, x78, x79, x80, x81, x82, x83, x84, x85, x86, x87, x88, x89, x90, x91, x92, x93, x94, x95, x96, x97, x98, x99, x100, x101, x102, x103, x104, x105, x106, x107, x108, x109, x110, x111, x112, x113, x114, x115, x116, x117, x118, x119, x120, x121, x122, x123, x124, x125, x126, x127, x128, x129, x130, x131, x132, x133, x134, x135, x136, x137, x138, x139, x140, x141, x142, x143, x144, x145, x146, x147, x148, x149, x150, x151, x152, x153, x154, x155, x156, x157, x158, x159, x160, x161, x162, x163, x164, x165, x166, x167, x168, x169, x170, x171, x172, x173, x174, x175, x176, x177, x178, x179, x180, x181, x182, x183, x184, x185, x186, x187, x188, x189, x190, x191, x192, x193, x194, x195, x196, x197, x198, x199, x200, x201, x202, x203, x204, x205, x206, x207, x208, x209, x210, x211, x212, x213, x214, x215, x216, x217, x218, x219, x220, x221, x222, x223, x224, x225, x226, x227, x228, x229, x230, x231, x232, x233, x234, x235, x236, x237, x238, x239, x240, x241, x242, x243, x244, x245, x246], []⟩ wr := by
    obtain ⟨x3, z3, a2⟩ := unhide HQ wr (Below.refl _ _)
    obtain ⟨E1, hE1⟩ : ∃ y, wr.alloc (.cells #[] 3) = y := ⟨_, rfl⟩
    obtain ⟨F1, hF1⟩ : ∃ y, wr.alloc (.cells #[.int .i64 OV] 3) = y := ⟨_, rfl⟩
    obtain ⟨E2, hE2⟩ : ∃ y, E1.alloc (.cells #[.int .i64 OV] 3) = y := ⟨_, rfl⟩
    obtain ⟨F2, hF2⟩ : ∃ y, F1.alloc (.cells #[] 3) = y := ⟨_, rfl⟩
    have sE1 : E1.heap.size = wr.heap.size + 1 := by rw [← hE1, World.size_alloc]
    have sF1 : F1.heap.size = wr.heap.size + 1 := by rw [← hF1, World.size_alloc]
    have bE1 : Below wr.heap.size wr E1 := hE1 ▸ (Below.refl _ _).alloc (Nat.le_refl _) _
    have bF1 : Below wr.heap.size wr F1 := hF1 ▸ (Below.refl _ _).alloc (Nat.le_refl _) _
    have bE2 : Below wr.heap.size wr E2 := hE2 ▸ bE1.alloc bE1.size _
    have bF2 : Below wr.heap.size wr F2 := hF2 ▸ bF1.alloc bF1.size _
    obtain ⟨p1, p2, p3⟩ := unhide HQ E1 bE1
    obtain ⟨q1, q2, q3⟩ := unhide HQ F1 bF1
    obtain ⟨r1, r2, r3⟩ := unhide HQ E2 bE2
    obtain ⟨s1, s2', s3⟩ := unhide HQ F2 bF2
    have oE1 : OwnV 3 E1 wr.heap.size (.slice (some ⟨wr.heap.size, 0, none⟩) 0 0) [] := own_empty (by rw [← hE1]; exact heap_alloc_new wr _) (Nat.le_refl _)
    have oE2 : OwnV 3 E2 wr.heap.size (.slice (some ⟨wr.heap.size, 0, none⟩) 0 0) [] := by rw [← hE2]; exact oE1.alloc _
    have oF2 : OwnV 3 F2 wr.heap.size (.slice (some ⟨wr.heap.size + 1, 0, none⟩) 0 0) [] := own_empty (by rw [← hF2, ← sF1]; exact heap_alloc_new F1 _) (by omega)
    have vE2 : ValsAt E2 (.slice (some ⟨wr.heap.size + 1, 0, none⟩) 1 1) [.int .i64 OV] := by rw [← hE2, ← sE1]; exact vals_new E1 [.int .i64 OV] 3
    have vF2 : ValsAt F2 (.slice (some ⟨wr.heap.size, 0, none⟩) 1 1) [.int .i64 OV] := by rw [← hF2]; refine (?_ : ValsAt F1 _ _).below ((Below.refl _ _).alloc (Nat.le_refl _) _); rw [← hF1]; exact vals_new wr [.int .i64 OV] 3
    have HB1 := hide bE1
    have HB2 := hide bE2
    have HB3 := hide bF2
    have HO1 := hide oE1
    have HO2 := hide oE2
    have HO3 := hide oF2
    have HV2 := hide vE2
    have HV3 := hide vF2
    clear bE1 bF1 bE2 bF2 oE1 oE2 oF2 vE2 vF2
    refine wp_region_noPanic ?_
    have HN4 : Hid ((ivs l).length = n2) := hide (by rw [show (ivs l).length = l.length from List.length_map _]; exact unhide HN2)
    go_region_law (first
      | (first
          | (refine step_append_vals Eli rfl _ _ rfl wr.heap.size (.slice (some ⟨wr.heap.size, 0, none⟩) 0 0) (.slice s2 n2 c2) [] (ivs l) (by simp [Act.eval]) (unhide HO1).drew (by simp [Act.eval]) ((unhide HVS).below (unhide HB1).drew) (ivs_one _) (unhide HB1).drew.size (by have := unhide HLL; simp; omega) ?_
             intro v4 w4 ho4 hg4 hor4
             have HB4 : Hid (Below wr.heap.size wr w4) := hide (own_below (unhide HO1).drew hg4 (unhide HB1).drew (unhide HB1).drew.size)
             have HV4 : Hid True := trivial)
          | (refine step_append_vals Eli rfl _ _ rfl wr.heap.size (.slice (some ⟨wr.heap.size, 0, none⟩) 0 0) (.slice s2 n2 c2) [] (ivs l) (by simp [Act.eval]) (unhide HO2).drew (by simp [Act.eval]) ((unhide HVS).below (unhide HB2).drew) (ivs_one _) (unhide HB2).drew.size (by have := unhide HLL; simp; omega) ?_
             intro v4 w4 ho4 hg4 hor4
             have HB4 : Hid (Below wr.heap.size wr w4) := hide (own_below (unhide HO2).drew hg4 (unhide HB2).drew (unhide HB2).drew.size)
             have HV4 : Hid (ValsAt w4 (.slice (some ⟨wr.heap.size + 1, 0, none⟩) 1 1) [.int .i64 OV]) := hide ((unhide HV2).drew.grown (g := wr.heap.size) hg4 (by simp [Value.ownBlock])))
          | (refine step_append_vals Eli rfl _ _ rfl wr.heap.size (.slice (some ⟨wr.heap.size + 1, 0, none⟩) 0 0) (.slice s2 n2 c2) [] (ivs l) (by simp [Act.eval]) (unhide HO3).drew (by simp [Act.eval]) ((unhide HVS).below (unhide HB3).drew) (ivs_one _) (unhide HB3).drew.size (by have := unhide HLL; simp; omega) ?_
             intro v4 w4 ho4 hg4 hor4
             have HB4 : Hid (Below wr.heap.size wr w4) := hide (own_below (unhide HO3).drew hg4 (unhide HB3).drew (unhide HB3).drew.size)
             have HV4 : Hid (ValsAt w4 (.slice (some ⟨wr.heap.size, 0, none⟩) 1 1) [.int .i64 OV]) := hide ((unhide HV3).drew.grown (g := wr.heap.size + 1) hg4 (by simp [Value.ownBlock]))))
        (rw [List.nil_append] at ho4
         obtain ⟨s4, c4, e4⟩ := ho4.form
         rw [unhide HN4] at e4
         subst e4
         have HO4 := hide ho4
         obtain ⟨t1, t2, t3⟩ := unhide HQ w4 (unhide HB4)
         obtain ⟨G, hG⟩ : ∃ y, w4.alloc (.cells #[.int .i64 OV] 3) = y := ⟨_, rfl⟩
         have hbG : Below wr.heap.size wr G := hG ▸ (unhide HB4).alloc (unhide HB4).size _
         obtain ⟨g1', g2, g3⟩ := unhide HQ G hbG
         have HBG := hide hbG
         have HOG : Hid (OwnV 3 G wr.heap.size (.slice s4 n2 c4) (ivs l)) := hide (hG ▸ ho4.alloc _)
         have HVG : Hid (ValsAt G (.slice (some ⟨w4.heap.size, 0, none⟩) 1 1) [.int .i64 OV]) := hide (hG ▸ vals_new w4 [.int .i64 OV] 3)
         clear ho4 hg4 hor4 hbG)
      | (first
          | (refine step_append_vals Eli rfl _ _ rfl wr.heap.size (.slice s4 n2 c4) (.slice (some ⟨w4.heap.size, 0, none⟩) 1 1) (ivs l) [.int .i64 OV] (by simp [Act.eval]) (unhide HOG) (by simp [Act.eval]) (unhide HVG) (by simp [Value.oneCell']) (unhide HBG).size (by have := unhide HLL; simp; omega) ?_
             intro v6 w6 ho6 hg6 hor6
             have HB6 : Hid (Below wr.heap.size wr w6) := hide (own_below (unhide HOG) hg6 (unhide HBG) (unhide HBG).size))
          | (refine step_append_vals Eli rfl _ _ rfl wr.heap.size (.slice s4 n2 c4) (.slice (some ⟨wr.heap.size + 1, 0, none⟩) 1 1) (ivs l) [.int .i64 OV] (by simp [Act.eval]) (unhide HO4) (by simp [Act.eval]) (unhide HV4) (by simp [Value.oneCell']) (unhide HB4).size (by have := unhide HLL; simp; omega) ?_
             intro v6 w6 ho6 hg6 hor6
             have HB6 : Hid (Below wr.heap.size wr w6) := hide (own_below (unhide HO4) hg6 (unhide HB4) (unhide HB4).size))
          | (refine step_append_vals Eli rfl _ _ rfl wr.heap.size (.slice s4 n2 c4) (.slice (some ⟨wr.heap.size, 0, none⟩) 1 1) (ivs l) [.int .i64 OV] (by simp [Act.eval]) (unhide HO4) (by simp [Act.eval]) (unhide HV4) (by simp [Value.oneCell']) (unhide HB4).size (by have := unhide HLL; simp; omega) ?_
             intro v6 w6 ho6 hg6 hor6
             have HB6 : Hid (Below wr.heap.size wr w6) := hide (own_below (unhide HO4) hg6 (unhide HB4) (unhide HB4).size)))
        (have ho6' : OwnV 3 w6 wr.heap.size v6 (ivs (l ++ [OV])) := by unfold ivs; rw [List.map_append]; exact ho6
         obtain ⟨s6, c6, e6⟩ := ho6'.form
         rw [show (ivs (l ++ [OV])).length = n2 + 1 by unfold ivs; rw [List.length_map, List.length_append, unhide HN2]; rfl] at e6
         subst e6
         have HO6 := hide ho6'
         obtain ⟨y1, y2, y3⟩ := unhide HQ w6 (unhide HB6)
         clear ho6 ho6' hg6 hor6))
    all_goals exact NoPanic.normal (hQ0 _ _ ⟨by unfold Slots; kernel_rfl, w6, .slice s6 (n2 + 1) c6, by kernel_rfl, unhide HB6, unhide HO6, rfl⟩)
end Go.Proofs.Ytbblhogdfdpipaa
