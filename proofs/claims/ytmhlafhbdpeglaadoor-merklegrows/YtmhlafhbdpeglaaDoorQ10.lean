/-
  The loop of the reference's 64 rounds, walked by itself.
-/
import Derived.Test.YtmhlafhbdpeglaaDoorQ9
namespace Go.Proofs.YtmhlafhbdpeglaaDoor.Sha
open Go.RowKit
theorem shTo_zero (s : St8) : shTo s.list 0 = [s.a, s.a, s.b, s.c, s.d, s.e, s.f, s.g] := rfl
set_option maxRecDepth 1000000 in
set_option maxHeartbeats 4000000 in
theorem ref_rounds (s0 : St8) (ws : List UInt32) (hws : ws.length = 64) (Kb Wb Vb : Nat) (hne1 : Kb ≠ Vb) (hne2 : Wb ≠ Vb) (w : World) (hK : w.heap[Kb]? = some (.cells (kTab.map wv).toArray 70 (0, 0))) (hW : w.heap[Wb]? = some (.cells (ws.map wv).toArray 70 (0, 0))) (hV : w.heap[Vb]? = some (.cells (s0.list.map wv).toArray 69 (0, 0))) (Q0 : Exit → Act → World → Prop)
    (c0 c1 c2 c3 c4 c5 c6 c8 c10 c11 c12 c13 c19 c20 c21 c22 c23 c24 c25 c26 c27 c28 c29 c30 c31 c32 c33 c34 c35 c36 c37 c38 c39 c40 c41 c42 c43 c44 c45 c46 c47 c48 c49 c50 c51 c52 c53 c54 c55 c56 c57 c58 c59 c60 c61 c62 c63 c64 c65 c66 c67 c68 c69 c70 c71 c72 c73 c74 c75 c76 c77 c78 c79 c80 c81 c82 c83 c84 c85 c86 c87 c88 c89 c90 c91 c92 c93 c94 c95 c96 c97 c98 c99 c100 c101 c102 c103 c104 c105 c106 c107 c108 c109 c110 c111 c112 c113 c114 c115 c116 c117 c118 c119 c120 c121 c122 c123 c124 c125 c126 c127 c128 c129 c130 c131 c132 c133 c134 c135 c136 c224 c225 c226 c227 c228 c229 c230 c231 c232 c233 c234 c235 c236 c237 c238 c239 c240 c241 c242 c243 c244 c245 c246 c247 c248 c249 c250 c251 c252 c253 u16 u17 u18 u137 u138 u139 u140 u141 u142 u143 u144 u145 u146 u147 u148 u149 u150 u151 u152 u153 u154 u155 u156 u157 u158 u159 u160 u161 u162 u163 u164 u165 u166 u167 u168 u169 u170 u171 u172 u173 u174 u175 u176 u177 u178 u179 u180 u181 u182 u183 u184 u185 u186 u187 u188 u189 u190 u191 u192 u193 u194 u195 u196 u197 u198 u199 u200 u201 u202 u203 u204 u205 u206 u207 u208 u209 u210 u211 u212 u213 u214 u215 u216 u217 u218 u219 u220 u221 u222 u223 : Value)
    (hexit : ∀ (u15 u16 u17 u18 u137 u138 u139 u140 u141 u142 u143 u144 u145 u146 u147 u148 u149 u150 u151 u152 u153 u154 u155 u156 u157 u158 u159 u160 u161 u162 u163 u164 u165 u166 u167 u168 u169 u170 u171 u172 u173 u174 u175 u176 u177 u178 u179 u180 u181 u182 u183 u184 u185 u186 u187 u188 u189 u190 u191 u192 u193 u194 u195 u196 u197 u198 u199 u200 u201 u202 u203 u204 u205 u206 u207 u208 u209 u210 u211 u212 u213 u214 u215 u216 u217 u218 u219 u220 u221 u222 u223 : Value) (w' : World), w'.heap[Vb]? = some (.cells ((roundsTo s0 ws 64).list.map wv).toArray 69 (0, 0)) → w.grownBy w' (some Vb) → Q0 (.exit 8) ⟨(c0 :: c1 :: c2 :: c3 :: c4 :: c5 :: c6 :: .pointer (some ⟨Kb, 0, none⟩) :: c8 :: .pointer (some ⟨Wb, 0, none⟩) :: c10 :: c11 :: c12 :: c13 :: .pointer (some ⟨Vb, 0, none⟩) :: u15 :: u16 :: u17 :: u18 :: c19 :: c20 :: c21 :: c22 :: c23 :: c24 :: c25 :: c26 :: c27 :: c28 :: c29 :: c30 :: c31 :: c32 :: c33 :: c34 :: c35 :: c36 :: c37 :: c38 :: c39 :: c40 :: c41 :: c42 :: c43 :: c44 :: c45 :: c46 :: c47 :: c48 :: c49 :: c50 :: c51 :: c52 :: c53 :: c54 :: c55 :: c56 :: c57 :: c58 :: c59 :: c60 :: c61 :: c62 :: c63 :: c64 :: c65 :: c66 :: c67 :: c68 :: c69 :: c70 :: c71 :: c72 :: c73 :: c74 :: c75 :: c76 :: c77 :: c78 :: c79 :: c80 :: c81 :: c82 :: c83 :: c84 :: c85 :: c86 :: c87 :: c88 :: c89 :: c90 :: c91 :: c92 :: c93 :: c94 :: c95 :: c96 :: c97 :: c98 :: c99 :: c100 :: c101 :: c102 :: c103 :: c104 :: c105 :: c106 :: c107 :: c108 :: c109 :: c110 :: c111 :: c112 :: c113 :: c114 :: c115 :: c116 :: c117 :: c118 :: c119 :: c120 :: c121 :: c122 :: c123 :: c124 :: c125 :: c126 :: c127 :: c128 :: c129 :: c130 :: c131 :: c132 :: c133 :: c134 :: c135 :: c136 :: u137 :: u138 :: u139 :: u140 :: u141 :: u142 :: u143 :: u144 :: u145 :: u146 :: u147 :: u148 :: u149 :: u150 :: u151 :: u152 :: u153 :: u154 :: u155 :: u156 :: u157 :: u158 :: u159 :: u160 :: u161 :: u162 :: u163 :: u164 :: u165 :: u166 :: u167 :: u168 :: u169 :: u170 :: u171 :: u172 :: u173 :: u174 :: u175 :: u176 :: u177 :: u178 :: u179 :: u180 :: u181 :: u182 :: u183 :: u184 :: u185 :: u186 :: u187 :: u188 :: u189 :: u190 :: u191 :: u192 :: u193 :: u194 :: u195 :: u196 :: u197 :: u198 :: u199 :: u200 :: u201 :: u202 :: u203 :: u204 :: u205 :: u206 :: u207 :: u208 :: u209 :: u210 :: u211 :: u212 :: u213 :: u214 :: u215 :: u216 :: u217 :: u218 :: u219 :: u220 :: u221 :: u222 :: u223 :: c224 :: c225 :: c226 :: c227 :: c228 :: c229 :: c230 :: c231 :: c232 :: c233 :: c234 :: c235 :: c236 :: c237 :: c238 :: c239 :: c240 :: c241 :: c242 :: c243 :: c244 :: c245 :: c246 :: c247 :: c248 :: c249 :: c250 :: c251 :: c252 :: c253 :: []).toArray, []⟩ w') :
    Code.wp Tryd.prog (Code.loop ((loopsOf (Tryd.f31.body.getD .skip)).getD 4 .skip)) Q0 ⟨(c0 :: c1 :: c2 :: c3 :: c4 :: c5 :: c6 :: .pointer (some ⟨Kb, 0, none⟩) :: c8 :: .pointer (some ⟨Wb, 0, none⟩) :: c10 :: c11 :: c12 :: c13 :: .pointer (some ⟨Vb, 0, none⟩) :: .int .i64 0 :: u16 :: u17 :: u18 :: c19 :: c20 :: c21 :: c22 :: c23 :: c24 :: c25 :: c26 :: c27 :: c28 :: c29 :: c30 :: c31 :: c32 :: c33 :: c34 :: c35 :: c36 :: c37 :: c38 :: c39 :: c40 :: c41 :: c42 :: c43 :: c44 :: c45 :: c46 :: c47 :: c48 :: c49 :: c50 :: c51 :: c52 :: c53 :: c54 :: c55 :: c56 :: c57 :: c58 :: c59 :: c60 :: c61 :: c62 :: c63 :: c64 :: c65 :: c66 :: c67 :: c68 :: c69 :: c70 :: c71 :: c72 :: c73 :: c74 :: c75 :: c76 :: c77 :: c78 :: c79 :: c80 :: c81 :: c82 :: c83 :: c84 :: c85 :: c86 :: c87 :: c88 :: c89 :: c90 :: c91 :: c92 :: c93 :: c94 :: c95 :: c96 :: c97 :: c98 :: c99 :: c100 :: c101 :: c102 :: c103 :: c104 :: c105 :: c106 :: c107 :: c108 :: c109 :: c110 :: c111 :: c112 :: c113 :: c114 :: c115 :: c116 :: c117 :: c118 :: c119 :: c120 :: c121 :: c122 :: c123 :: c124 :: c125 :: c126 :: c127 :: c128 :: c129 :: c130 :: c131 :: c132 :: c133 :: c134 :: c135 :: c136 :: u137 :: u138 :: u139 :: u140 :: u141 :: u142 :: u143 :: u144 :: u145 :: u146 :: u147 :: u148 :: u149 :: u150 :: u151 :: u152 :: u153 :: u154 :: u155 :: u156 :: u157 :: u158 :: u159 :: u160 :: u161 :: u162 :: u163 :: u164 :: u165 :: u166 :: u167 :: u168 :: u169 :: u170 :: u171 :: u172 :: u173 :: u174 :: u175 :: u176 :: u177 :: u178 :: u179 :: u180 :: u181 :: u182 :: u183 :: u184 :: u185 :: u186 :: u187 :: u188 :: u189 :: u190 :: u191 :: u192 :: u193 :: u194 :: u195 :: u196 :: u197 :: u198 :: u199 :: u200 :: u201 :: u202 :: u203 :: u204 :: u205 :: u206 :: u207 :: u208 :: u209 :: u210 :: u211 :: u212 :: u213 :: u214 :: u215 :: u216 :: u217 :: u218 :: u219 :: u220 :: u221 :: u222 :: u223 :: c224 :: c225 :: c226 :: c227 :: c228 :: c229 :: c230 :: c231 :: c232 :: c233 :: c234 :: c235 :: c236 :: c237 :: c238 :: c239 :: c240 :: c241 :: c242 :: c243 :: c244 :: c245 :: c246 :: c247 :: c248 :: c249 :: c250 :: c251 :: c252 :: c253 :: []).toArray, []⟩ w := by
  have HK := hide hK
  have HW := hide hW
  have HV := hide hV
  have HE := hide hexit
  clear hK hW hV hexit
  conv => arg 2; arg 1; whnf
  go_loopw [15] (fun i wr => ∃ k : Nat, k ≤ 64 ∧ i = .int .i64 k ∧ wr.heap[Vb]? = some (.cells ((roundsTo s0 ws k).list.map wv).toArray 69 (0, 0)) ∧ w.grownBy wr (some Vb)) (fun i _ => 64 - (intOf i).toNat)
  case atStart => exact ⟨0, by omega, rfl, unhide HV, World.grownBy.refl _ _⟩
  case round =>
    obtain ⟨k, hk, rfl, hA, hG⟩ := hrel
    by_cases hlt : k < 64
    · have hK2 : wr.heap[Kb]? = some (.cells (kTab.map wv).toArray 70 (0, 0)) := by rw [hG.block _ (Array.getElem?_eq_some_iff.1 (unhide HK)).1 (by simpa using hne1)]; exact unhide HK
      have hW2 : wr.heap[Wb]? = some (.cells (ws.map wv).toArray 70 (0, 0)) := by rw [hG.block _ (Array.getElem?_eq_some_iff.1 (unhide HW)).1 (by simpa using hne2)]; exact unhide HW
      have cK : wr.cell? ⟨Kb, k, none⟩ = some (.int .u32 (iv (kTab.getD k 0))) := by rw [cell_of_row _ _ k _ 70 (0, 0) hK2]; exact getD_map_wv kTab k (by rw [length_kTab]; exact hlt)
      have cW : wr.cell? ⟨Wb, k, none⟩ = some (.int .u32 (iv (ws.getD k 0))) := by rw [cell_of_row _ _ k _ 70 (0, 0) hW2]; exact getD_map_wv ws k (by omega)
      have HN : Hid (roundsTo s0 ws (k + 1) = rnd (roundsTo s0 ws k) (kTab.getD k 0) (ws.getD k 0)) := rfl
      generalize kTab.getD k 0 = kk at cK HN
      generalize ws.getD k 0 = ww at cW HN
      generalize roundsTo s0 ws k = s at hA HN
      obtain ⟨a, b, c, d, e, f, g, hh⟩ := s
      have cV : ∀ i, i < 8 → wr.cell? ⟨Vb, i, none⟩ = some (.int .u32 (iv (([a, b, c, d, e, f, g, hh] : List UInt32).getD i 0))) := fun i hi => by
        rw [cell_of_row _ _ i _ 69 (0, 0) hA]; exact getD_map_wv [a, b, c, d, e, f, g, hh] i hi
      have c0 : wr.cell? ⟨Vb, 0, none⟩ = some (.int .u32 (iv a)) := cV 0 (by omega)
      have c1 : wr.cell? ⟨Vb, 1, none⟩ = some (.int .u32 (iv b)) := cV 1 (by omega)
      have c2 : wr.cell? ⟨Vb, 2, none⟩ = some (.int .u32 (iv c)) := cV 2 (by omega)
      have c4 : wr.cell? ⟨Vb, 4, none⟩ = some (.int .u32 (iv e)) := cV 4 (by omega)
      have c5 : wr.cell? ⟨Vb, 5, none⟩ = some (.int .u32 (iv f)) := cV 5 (by omega)
      have c6 : wr.cell? ⟨Vb, 6, none⟩ = some (.int .u32 (iv g)) := cV 6 (by omega)
      have c7 : wr.cell? ⟨Vb, 7, none⟩ = some (.int .u32 (iv hh)) := cV 7 (by omega)
      have HA := hide hA
      have HG := hide hG
      have f1 := t1_form ⟨a, b, c, d, e, f, g, hh⟩ kk ww
      have f2 := t2_form ⟨a, b, c, d, e, f, g, hh⟩
      dsimp only at f1 f2
      rw [show (4294967295 : Int) = IntKind.u32.max from rfl] at f1
      generalize ht1 : t1Of ⟨a, b, c, d, e, f, g, hh⟩ kk ww = T1 at f1
      generalize ht2 : t2Of ⟨a, b, c, d, e, f, g, hh⟩ = T2 at f2
      have Ht1 := hide ht1
      have Ht2 := hide ht2
      have k64 : (k : Int) < 64 := by omega
      have k00 : (0 : Int) ≤ (k : Int) := by omega
      clear hA hG cV hK2 hW2 ht1 ht2 HE HV HK HW
      go_wp2
      go_region_held3 (fun w' => w'.cell? ⟨Vb, 4, none⟩ = some (.int .u32 (iv e)) ∧ w'.cell? ⟨Vb, 5, none⟩ = some (.int .u32 (iv f)) ∧ w'.cell? ⟨Vb, 6, none⟩ = some (.int .u32 (iv g)) ∧ w'.cell? ⟨Vb, 7, none⟩ = some (.int .u32 (iv hh)) ∧ w'.cell? ⟨Kb, k, none⟩ = some (.int .u32 (iv kk)) ∧ w'.cell? ⟨Wb, k, none⟩ = some (.int .u32 (iv ww))) (go_keep) ((go_at_call 54; refine (turn_any _ _ (by omega) (by omega) _).mono ?_; rintro e w' ⟨rfl, rfl⟩))
      go_wp2
      go_region_held3 (fun w' => w'.cell? ⟨Vb, 0, none⟩ = some (.int .u32 (iv a)) ∧ w'.cell? ⟨Vb, 1, none⟩ = some (.int .u32 (iv b)) ∧ w'.cell? ⟨Vb, 2, none⟩ = some (.int .u32 (iv c))) (go_keep) ((go_at_call 54; refine (turn_any _ _ (by omega) (by omega) _).mono ?_; rintro e w' ⟨rfl, rfl⟩))
      go_wp2
      refine ref_shift [a, b, c, d, e, f, g, hh] rfl Vb _ (by exact unhide HA) _ _ _ _ _ _ _ _ _ _ _ _ _ _ _ _ _ _ _ _ _ _ _ _ _ _ _ _ _ _ _ _ _ _ _ _ _ _ _ _ _ _ _ _ _ _ _ _ _ _ _ _ _ _ _ _ _ _ _ _ _ _ _ _ _ _ _ _ _ _ _ _ _ _ _ _ _ _ _ _ _ _ _ _ _ _ _ _ _ _ _ _ _ _ _ _ _ _ _ _ _ _ _ _ _ _ _ _ _ _ _ _ _ _ _ _ _ _ _ _ _ _ _ _ _ _ _ _ _ _ _ _ _ _ _ _ _ _ _ _ _ _ _ _ _ _ _ _ _ _ _ _ _ _ _ _ _ _ _ _ _ _ _ _ _ _ _ _ _ _ _ _ _ _ _ _ _ _ _ _ _ _ _ _ _ _ _ _ _ _ _ _ _ _ _ _ _ _ _ _ _ _ _ _ _ _ _ _ _ _ _ _ _ _ _ _ _ _ _ _ _ _ _ _ _ _ _ _ _ _ _ _ _ _ _ _ _ _ _ _ _ _ _ _ _ _ _ _ _ _ _ _ _ ?_
      intro u18 u205 u206 u207 u208 u209 u210 u211 u212 u213 u214 w' hA' hG'
      have d4 : w'.cell? ⟨Vb, 4, none⟩ = some (.int .u32 (iv d)) := by rw [cell_of_row _ _ 4 _ 69 (0, 0) hA']; rfl
      have d0 : w'.cell? ⟨Vb, 0, none⟩ = some (.int .u32 (iv a)) := by rw [cell_of_row _ _ 0 _ 69 (0, 0) hA']; rfl
      have g4 : w'.frozen? ⟨Vb, 4, none⟩ = false := frozen_of_row _ _ 4 _ 69 hA'
      have g0 : w'.frozen? ⟨Vb, 0, none⟩ = false := frozen_of_row _ _ 0 _ 69 hA'
      have a1 : IntKind.u32.wrap (iv d + iv T1) = iv (d + T1) := iv_add d T1
      have a2 : IntKind.u32.wrap (iv T1 + iv T2) = iv (T1 + T2) := iv_add T1 T2
      have hS : ((w'.setCell ⟨Vb, 4, none⟩ (.int .u32 (iv (d + T1)))).setCell ⟨Vb, 0, none⟩ (.int .u32 (iv (T1 + T2)))).heap[Vb]? = _ := heap_setCell_same _ _ _ _ _ _ (heap_setCell_same _ _ _ _ _ _ hA')
      have hg8 := (unhide HG).drew.drew.drew.drew.drew.drew.drew.drew.trans hG'
      have hG2 := grown_setCell (grown_setCell hg8 ⟨Vb, 4, none⟩ (.int .u32 (iv (d + T1))) rfl) ⟨Vb, 0, none⟩ (.int .u32 (iv (T1 + T2))) rfl
      have HS := hide hS
      have HG2 := hide hG2
      clear hS hG2 hg8 hA' hG' HA HG f1 f2 c0 c1 c2 c4 c5 c6 c7 cK cW
      go_wp2
      go_roundw
      case rel =>
        have hS' : ((w'.setCell ⟨Vb, 4, none⟩ (.int .u32 (iv (d + T1)))).setCell ⟨Vb, 0, none⟩ (.int .u32 (iv (T1 + T2)))).heap[Vb]? = some (.cells ((roundsTo s0 ws (k + 1)).list.map wv).toArray 69 (0, 0)) := by
          rw [unhide HN, unhide HS, ← unhide Ht1, ← unhide Ht2]; rfl
        first
          | exact ⟨k + 1, by omega, by go_num, hS', unhide HG2⟩
          | exact ⟨k + 1, by omega, by go_num, hS', (unhide HG2).drew⟩
          | exact ⟨k + 1, by omega, by go_num, hS', (unhide HG2).drew.drew⟩
          | ((repeat apply Exists.intro); exact ⟨⟨k + 1, by omega, by go_num, hS', unhide HG2⟩, rfl⟩)
          | ((repeat apply Exists.intro); exact ⟨⟨k + 1, by omega, by go_num, hS', (unhide HG2).drew⟩, rfl⟩)
          | ((repeat apply Exists.intro); exact ⟨⟨k + 1, by omega, by go_num, hS', (unhide HG2).drew.drew⟩, rfl⟩)
          | (trace_state; fail)
      case measure => simp [intOf]; omega
    · obtain rfl : k = 64 := by omega
      have HA := hide hA
      have HG := hide hG
      clear hA hG hlt hk
      go_wp2
      exact unhide HE _ _ _ _ _ _ _ _ _ _ _ _ _ _ _ _ _ _ _ _ _ _ _ _ _ _ _ _ _ _ _ _ _ _ _ _ _ _ _ _ _ _ _ _ _ _ _ _ _ _ _ _ _ _ _ _ _ _ _ _ _ _ _ _ _ _ _ _ _ _ _ _ _ _ _ _ _ _ _ _ _ _ _ _ _ _ _ _ _ _ _ _ (unhide HA) (unhide HG)
end Go.Proofs.YtmhlafhbdpeglaaDoor.Sha
