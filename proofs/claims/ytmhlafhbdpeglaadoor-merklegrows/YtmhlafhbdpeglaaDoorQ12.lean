/-
  The loop of the reference that adds the rounds' words to the state, walked by itself.
  The loop of the reference over the blocks, walked by itself.
  The reference's sum, walked whole.
-/
import Derived.Test.YtmhlafhbdpeglaaDoorQ9
import Derived.Test.YtmhlafhbdpeglaaDoorQ10
import Derived.Test.YtmhlafhbdpeglaaDoorQ11
namespace Go.Proofs.YtmhlafhbdpeglaaDoor.Sha
open Go.RowKit
set_option maxRecDepth 1000000 in
set_option maxHeartbeats 2000000 in
theorem ref_add (st out : List UInt32) (hst : st.length = 8) (hout : out.length = 8) (Hb Vb : Nat) (hne : Hb ≠ Vb) (w : World) (hH : w.heap[Hb]? = some (.cells (st.map wv).toArray 69 (0, 0))) (hV : w.heap[Vb]? = some (.cells (out.map wv).toArray 69 (0, 0))) (Q0 : Exit → Act → World → Prop)
    (c0 c1 c2 c3 c4 c5 c7 c8 c9 c10 c11 c12 c13 c15 c16 c17 c18 c20 c21 c22 c23 c24 c25 c26 c27 c28 c29 c30 c31 c32 c33 c34 c35 c36 c37 c38 c39 c40 c41 c42 c43 c44 c45 c46 c47 c48 c49 c50 c51 c52 c53 c54 c55 c56 c57 c58 c59 c60 c61 c62 c63 c64 c65 c66 c67 c68 c69 c70 c71 c72 c73 c74 c75 c76 c77 c78 c79 c80 c81 c82 c83 c84 c85 c86 c87 c88 c89 c90 c91 c92 c93 c94 c95 c96 c97 c98 c99 c100 c101 c102 c103 c104 c105 c106 c107 c108 c109 c110 c111 c112 c113 c114 c115 c116 c117 c118 c119 c120 c121 c122 c123 c124 c125 c126 c127 c128 c129 c130 c131 c132 c133 c134 c135 c136 c137 c138 c139 c140 c141 c142 c143 c144 c145 c146 c147 c148 c149 c150 c151 c152 c153 c154 c155 c156 c157 c158 c159 c160 c161 c162 c163 c164 c165 c166 c167 c168 c169 c170 c171 c172 c173 c174 c175 c176 c177 c178 c179 c180 c181 c182 c183 c184 c185 c186 c187 c188 c189 c190 c191 c192 c193 c194 c195 c196 c197 c198 c199 c200 c201 c202 c203 c204 c205 c206 c207 c208 c209 c210 c211 c212 c213 c214 c215 c216 c217 c218 c219 c220 c221 c222 c223 c236 c237 c238 c239 c240 c241 c242 c243 c244 c245 c246 c247 c248 c249 c250 c251 c252 c253 u224 u225 u226 u227 u228 u229 u230 u231 u232 u233 u234 u235 : Value)
    (hexit : ∀ (u19 u224 u225 u226 u227 u228 u229 u230 u231 u232 u233 u234 u235 : Value) (w' : World), w'.heap[Hb]? = some (.cells ((List.zipWith (· + ·) st out).map wv).toArray 69 (0, 0)) → w.grownBy w' (some Hb) → Q0 (.exit 12) ⟨(c0 :: c1 :: c2 :: c3 :: c4 :: c5 :: .pointer (some ⟨Hb, 0, none⟩) :: c7 :: c8 :: c9 :: c10 :: c11 :: c12 :: c13 :: .pointer (some ⟨Vb, 0, none⟩) :: c15 :: c16 :: c17 :: c18 :: u19 :: c20 :: c21 :: c22 :: c23 :: c24 :: c25 :: c26 :: c27 :: c28 :: c29 :: c30 :: c31 :: c32 :: c33 :: c34 :: c35 :: c36 :: c37 :: c38 :: c39 :: c40 :: c41 :: c42 :: c43 :: c44 :: c45 :: c46 :: c47 :: c48 :: c49 :: c50 :: c51 :: c52 :: c53 :: c54 :: c55 :: c56 :: c57 :: c58 :: c59 :: c60 :: c61 :: c62 :: c63 :: c64 :: c65 :: c66 :: c67 :: c68 :: c69 :: c70 :: c71 :: c72 :: c73 :: c74 :: c75 :: c76 :: c77 :: c78 :: c79 :: c80 :: c81 :: c82 :: c83 :: c84 :: c85 :: c86 :: c87 :: c88 :: c89 :: c90 :: c91 :: c92 :: c93 :: c94 :: c95 :: c96 :: c97 :: c98 :: c99 :: c100 :: c101 :: c102 :: c103 :: c104 :: c105 :: c106 :: c107 :: c108 :: c109 :: c110 :: c111 :: c112 :: c113 :: c114 :: c115 :: c116 :: c117 :: c118 :: c119 :: c120 :: c121 :: c122 :: c123 :: c124 :: c125 :: c126 :: c127 :: c128 :: c129 :: c130 :: c131 :: c132 :: c133 :: c134 :: c135 :: c136 :: c137 :: c138 :: c139 :: c140 :: c141 :: c142 :: c143 :: c144 :: c145 :: c146 :: c147 :: c148 :: c149 :: c150 :: c151 :: c152 :: c153 :: c154 :: c155 :: c156 :: c157 :: c158 :: c159 :: c160 :: c161 :: c162 :: c163 :: c164 :: c165 :: c166 :: c167 :: c168 :: c169 :: c170 :: c171 :: c172 :: c173 :: c174 :: c175 :: c176 :: c177 :: c178 :: c179 :: c180 :: c181 :: c182 :: c183 :: c184 :: c185 :: c186 :: c187 :: c188 :: c189 :: c190 :: c191 :: c192 :: c193 :: c194 :: c195 :: c196 :: c197 :: c198 :: c199 :: c200 :: c201 :: c202 :: c203 :: c204 :: c205 :: c206 :: c207 :: c208 :: c209 :: c210 :: c211 :: c212 :: c213 :: c214 :: c215 :: c216 :: c217 :: c218 :: c219 :: c220 :: c221 :: c222 :: c223 :: u224 :: u225 :: u226 :: u227 :: u228 :: u229 :: u230 :: u231 :: u232 :: u233 :: u234 :: u235 :: c236 :: c237 :: c238 :: c239 :: c240 :: c241 :: c242 :: c243 :: c244 :: c245 :: c246 :: c247 :: c248 :: c249 :: c250 :: c251 :: c252 :: c253 :: []).toArray, []⟩ w') :
    Code.wp Tryd.prog (Code.loop ((loopsOf (Tryd.f31.body.getD .skip)).getD 6 .skip)) Q0 ⟨(c0 :: c1 :: c2 :: c3 :: c4 :: c5 :: .pointer (some ⟨Hb, 0, none⟩) :: c7 :: c8 :: c9 :: c10 :: c11 :: c12 :: c13 :: .pointer (some ⟨Vb, 0, none⟩) :: c15 :: c16 :: c17 :: c18 :: .int .i64 0 :: c20 :: c21 :: c22 :: c23 :: c24 :: c25 :: c26 :: c27 :: c28 :: c29 :: c30 :: c31 :: c32 :: c33 :: c34 :: c35 :: c36 :: c37 :: c38 :: c39 :: c40 :: c41 :: c42 :: c43 :: c44 :: c45 :: c46 :: c47 :: c48 :: c49 :: c50 :: c51 :: c52 :: c53 :: c54 :: c55 :: c56 :: c57 :: c58 :: c59 :: c60 :: c61 :: c62 :: c63 :: c64 :: c65 :: c66 :: c67 :: c68 :: c69 :: c70 :: c71 :: c72 :: c73 :: c74 :: c75 :: c76 :: c77 :: c78 :: c79 :: c80 :: c81 :: c82 :: c83 :: c84 :: c85 :: c86 :: c87 :: c88 :: c89 :: c90 :: c91 :: c92 :: c93 :: c94 :: c95 :: c96 :: c97 :: c98 :: c99 :: c100 :: c101 :: c102 :: c103 :: c104 :: c105 :: c106 :: c107 :: c108 :: c109 :: c110 :: c111 :: c112 :: c113 :: c114 :: c115 :: c116 :: c117 :: c118 :: c119 :: c120 :: c121 :: c122 :: c123 :: c124 :: c125 :: c126 :: c127 :: c128 :: c129 :: c130 :: c131 :: c132 :: c133 :: c134 :: c135 :: c136 :: c137 :: c138 :: c139 :: c140 :: c141 :: c142 :: c143 :: c144 :: c145 :: c146 :: c147 :: c148 :: c149 :: c150 :: c151 :: c152 :: c153 :: c154 :: c155 :: c156 :: c157 :: c158 :: c159 :: c160 :: c161 :: c162 :: c163 :: c164 :: c165 :: c166 :: c167 :: c168 :: c169 :: c170 :: c171 :: c172 :: c173 :: c174 :: c175 :: c176 :: c177 :: c178 :: c179 :: c180 :: c181 :: c182 :: c183 :: c184 :: c185 :: c186 :: c187 :: c188 :: c189 :: c190 :: c191 :: c192 :: c193 :: c194 :: c195 :: c196 :: c197 :: c198 :: c199 :: c200 :: c201 :: c202 :: c203 :: c204 :: c205 :: c206 :: c207 :: c208 :: c209 :: c210 :: c211 :: c212 :: c213 :: c214 :: c215 :: c216 :: c217 :: c218 :: c219 :: c220 :: c221 :: c222 :: c223 :: u224 :: u225 :: u226 :: u227 :: u228 :: u229 :: u230 :: u231 :: u232 :: u233 :: u234 :: u235 :: c236 :: c237 :: c238 :: c239 :: c240 :: c241 :: c242 :: c243 :: c244 :: c245 :: c246 :: c247 :: c248 :: c249 :: c250 :: c251 :: c252 :: c253 :: []).toArray, []⟩ w := by
  have HH := hide hH
  have HV := hide hV
  have HE := hide hexit
  clear hH hV hexit
  conv => arg 2; arg 1; whnf
  go_loopw [19] (fun i wr => ∃ k : Nat, k ≤ 8 ∧ i = .int .i64 k ∧ wr.heap[Hb]? = some (.cells ((addTo st out k).map wv).toArray 69 (0, 0)) ∧ w.grownBy wr (some Hb)) (fun i _ => 8 - (intOf i).toNat)
  case atStart => exact ⟨0, by omega, rfl, by rw [addTo_zero]; exact unhide HH, World.grownBy.refl _ _⟩
  case round =>
    obtain ⟨k, hk, rfl, hA, hG⟩ := hrel
    have hV2 : wr.heap[Vb]? = some (.cells (out.map wv).toArray 69 (0, 0)) := by rw [hG.block _ (Array.getElem?_eq_some_iff.1 (unhide HV)).1 (by simpa using Ne.symm hne)]; exact unhide HV
    by_cases hlt : k < 8
    · have cH : wr.cell? ⟨Hb, k, none⟩ = some (.int .u32 (iv (st.getD k 0))) := by rw [cell_of_row _ _ k _ 69 (0, 0) hA]; exact addTo_get st out hst hout k hlt
      have fH : wr.frozen? ⟨Hb, k, none⟩ = false := frozen_of_row _ _ k _ 69 hA
      have cV : wr.cell? ⟨Vb, k, none⟩ = some (.int .u32 (iv (out.getD k 0))) := by rw [cell_of_row _ _ k _ 69 (0, 0) hV2]; exact getD_map_wv out k (by omega)
      have hS : (wr.setCell ⟨Hb, k, none⟩ (.int .u32 (iv (st.getD k 0 + out.getD k 0)))).heap[Hb]? = _ := heap_setCell_same _ _ _ _ _ _ hA
      rw [addTo_set st out hst hout k hlt] at hS
      have hG2 := grown_setCell hG ⟨Hb, k, none⟩ (.int .u32 (iv (st.getD k 0 + out.getD k 0))) rfl
      have ha := iv_add (st.getD k 0) (out.getD k 0)
      generalize st.getD k 0 = p at *
      generalize out.getD k 0 = q at *
      have HS := hide hS
      have HG2 := hide hG2
      have k1 : (k : Int) < 8 := by omega
      have k0 : (0 : Int) ≤ (k : Int) := by omega
      clear hA hG hV2 hS hG2 HE HH HV
      go_wp2
      refine wp_region_noPanic ?_
      go_region_with (fail)
      all_goals
        refine NoPanic.normal ?_
        go_wp2
        go_roundw
        case rel =>
          first
            | exact ⟨k + 1, by omega, by go_num, unhide HS, (unhide HG2).drew⟩
            | ((repeat apply Exists.intro); exact ⟨⟨k + 1, by omega, by go_num, unhide HS, (unhide HG2).drew⟩, rfl⟩)
        case measure => simp [intOf]; omega
    · obtain rfl : k = 8 := by omega
      rw [addTo_full st out hst hout] at hA
      have HA := hide hA
      have HG := hide hG
      clear hA hG hV2 hlt hk
      go_wp2
      exact unhide HE _ _ _ _ _ _ _ _ _ _ _ _ _ _ (unhide HA) (unhide HG)
end Go.Proofs.YtmhlafhbdpeglaaDoor.Sha
namespace Go.Proofs.YtmhlafhbdpeglaaDoor.Sha
open Go.RowKit
theorem RefAt.grown {w : World} {Hb Kb : Nat} {vM : Value} {M : List UInt8} {st : List UInt32} {a b : World} {N : Nat} (i : RefAt w Hb Kb vM M st a) (hg : a.grownBy b (some N)) (hN : Kb < N) (hm : vM.ownBlock ≠ some N) : RefAt w Hb Kb vM M st b := by
  have hk := i.kb
  have hh := i.hb
  have hl := i.lt
  have hs := i.bel.size
  refine ⟨by rw [hg.block _ (by omega) (by intro e; cases e; omega)]; exact i.h, by rw [hg.block _ hl (by intro e; cases e; omega)]; exact i.k, i.m.grown hg hm, i.bel.grown hg hs (by intro k e; cases e; omega), hh, hk, i.ne⟩
theorem RefAt.grownH {w : World} {Hb Kb : Nat} {vM : Value} {M : List UInt8} {st st' : List UInt32} {a b : World} (i : RefAt w Hb Kb vM M st a) (hg : a.grownBy b (some Hb)) (h : b.heap[Hb]? = some (.cells (st'.map wv).toArray 69 (0, 0))) : RefAt w Hb Kb vM M st' b := by
  have hk := i.kb
  have hh := i.hb
  have hl := i.lt
  have hs := i.bel.size
  refine ⟨h, by rw [hg.block _ hl (by intro e; cases e; omega)]; exact i.k, i.m.grown hg i.ne, i.bel.grown hg hs (by intro k e; cases e; exact hh), hh, hk, i.ne⟩
theorem RefAt.alloc {w : World} {Hb Kb : Nat} {vM : Value} {M : List UInt8} {st : List UInt32} {a : World} (i : RefAt w Hb Kb vM M st a) (o : Obj) : RefAt w Hb Kb vM M st (a.alloc o) :=
  i.below ((Below.refl _ _).alloc (Nat.le_refl _) o)
theorem BytesAt.range {w : World} {b o n c : Nat} {l : List UInt8} (h : BytesAt w (.slice (some ⟨b, o, none⟩) n c) l) (hl : l ≠ []) : w.rangeAt b o (l.map bv) := by
  obtain ⟨sp, c', e, _, _, h3⟩ := h
  cases e
  obtain ⟨b', o', e2, h4⟩ := h3 hl
  cases e2
  exact h4
theorem list_ofList8 (l : List UInt32) (h : l.length = 8) : (ofList8 l).list = l := by
  match l, h with
  | [a, b, c, d, e, f, g, i], _ => rfl
set_option maxRecDepth 1000000 in
set_option maxHeartbeats 4000000 in
theorem ref_blocks (w0 : World) (Hb Kb mb mo cm : Nat) (M : List UInt8) (hM64 : M.length % 64 = 0) (hM : M.length ≤ 1048800) (hcm : M.length ≤ cm) (w : World) (hR : RefAt w0 Hb Kb (.slice (some ⟨mb, mo, none⟩) M.length cm) M hTab w) (Q0 : Exit → Act → World → Prop)
    (c0 c1 c2 c4 c5 u9 u10 u11 u12 u13 u14 u15 u16 u17 u18 u19 u20 u21 u22 u23 u24 u25 u26 u27 u28 u29 u30 u31 u32 u33 u34 u35 u36 u37 u38 u39 u40 u41 u42 u43 u44 u45 u46 u47 u48 u49 u50 u51 u52 u53 u54 u55 u56 u57 u58 u59 u60 u61 u62 u63 u64 u65 u66 u67 u68 u69 u70 u71 u72 u73 u74 u75 u76 u77 u78 u79 u80 u81 u82 u83 u84 u85 u86 u87 u88 u89 u90 u91 u92 u93 u94 u95 u96 u97 u98 u99 u100 u101 u102 u103 u104 u105 u106 u107 u108 u109 u110 u111 u112 u113 u114 u115 u116 u117 u118 u119 u120 u121 u122 u123 u124 u125 u126 u127 u128 u129 u130 u131 u132 u133 u134 u135 u136 u137 u138 u139 u140 u141 u142 u143 u144 u145 u146 u147 u148 u149 u150 u151 u152 u153 u154 u155 u156 u157 u158 u159 u160 u161 u162 u163 u164 u165 u166 u167 u168 u169 u170 u171 u172 u173 u174 u175 u176 u177 u178 u179 u180 u181 u182 u183 u184 u185 u186 u187 u188 u189 u190 u191 u192 u193 u194 u195 u196 u197 u198 u199 u200 u201 u202 u203 u204 u205 u206 u207 u208 u209 u210 u211 u212 u213 u214 u215 u216 u217 u218 u219 u220 u221 u222 u223 u224 u225 u226 u227 u228 u229 u230 u231 u232 u233 u234 u235 u236 u237 u238 u239 u240 u241 u242 u243 u244 u245 u246 u247 u248 u249 u250 u251 u252 u253 : Value)
    (hexit : ∀ (u8 u9 u10 u11 u12 u13 u14 u15 u16 u17 u18 u19 u20 u21 u22 u23 u24 u25 u26 u27 u28 u29 u30 u31 u32 u33 u34 u35 u36 u37 u38 u39 u40 u41 u42 u43 u44 u45 u46 u47 u48 u49 u50 u51 u52 u53 u54 u55 u56 u57 u58 u59 u60 u61 u62 u63 u64 u65 u66 u67 u68 u69 u70 u71 u72 u73 u74 u75 u76 u77 u78 u79 u80 u81 u82 u83 u84 u85 u86 u87 u88 u89 u90 u91 u92 u93 u94 u95 u96 u97 u98 u99 u100 u101 u102 u103 u104 u105 u106 u107 u108 u109 u110 u111 u112 u113 u114 u115 u116 u117 u118 u119 u120 u121 u122 u123 u124 u125 u126 u127 u128 u129 u130 u131 u132 u133 u134 u135 u136 u137 u138 u139 u140 u141 u142 u143 u144 u145 u146 u147 u148 u149 u150 u151 u152 u153 u154 u155 u156 u157 u158 u159 u160 u161 u162 u163 u164 u165 u166 u167 u168 u169 u170 u171 u172 u173 u174 u175 u176 u177 u178 u179 u180 u181 u182 u183 u184 u185 u186 u187 u188 u189 u190 u191 u192 u193 u194 u195 u196 u197 u198 u199 u200 u201 u202 u203 u204 u205 u206 u207 u208 u209 u210 u211 u212 u213 u214 u215 u216 u217 u218 u219 u220 u221 u222 u223 u224 u225 u226 u227 u228 u229 u230 u231 u232 u233 u234 u235 u236 u237 u238 u239 u240 u241 u242 u243 u244 u245 u246 u247 u248 u249 u250 u251 u252 u253 : Value) (w' : World), RefAt w0 Hb Kb (.slice (some ⟨mb, mo, none⟩) M.length cm) M (stTo M (M.length / 64)) w' → Q0 (.exit 4) ⟨(c0 :: c1 :: c2 :: .slice (some ⟨mb, mo, none⟩) M.length cm :: c4 :: c5 :: .pointer (some ⟨Hb, 0, none⟩) :: .pointer (some ⟨Kb, 0, none⟩) :: u8 :: u9 :: u10 :: u11 :: u12 :: u13 :: u14 :: u15 :: u16 :: u17 :: u18 :: u19 :: u20 :: u21 :: u22 :: u23 :: u24 :: u25 :: u26 :: u27 :: u28 :: u29 :: u30 :: u31 :: u32 :: u33 :: u34 :: u35 :: u36 :: u37 :: u38 :: u39 :: u40 :: u41 :: u42 :: u43 :: u44 :: u45 :: u46 :: u47 :: u48 :: u49 :: u50 :: u51 :: u52 :: u53 :: u54 :: u55 :: u56 :: u57 :: u58 :: u59 :: u60 :: u61 :: u62 :: u63 :: u64 :: u65 :: u66 :: u67 :: u68 :: u69 :: u70 :: u71 :: u72 :: u73 :: u74 :: u75 :: u76 :: u77 :: u78 :: u79 :: u80 :: u81 :: u82 :: u83 :: u84 :: u85 :: u86 :: u87 :: u88 :: u89 :: u90 :: u91 :: u92 :: u93 :: u94 :: u95 :: u96 :: u97 :: u98 :: u99 :: u100 :: u101 :: u102 :: u103 :: u104 :: u105 :: u106 :: u107 :: u108 :: u109 :: u110 :: u111 :: u112 :: u113 :: u114 :: u115 :: u116 :: u117 :: u118 :: u119 :: u120 :: u121 :: u122 :: u123 :: u124 :: u125 :: u126 :: u127 :: u128 :: u129 :: u130 :: u131 :: u132 :: u133 :: u134 :: u135 :: u136 :: u137 :: u138 :: u139 :: u140 :: u141 :: u142 :: u143 :: u144 :: u145 :: u146 :: u147 :: u148 :: u149 :: u150 :: u151 :: u152 :: u153 :: u154 :: u155 :: u156 :: u157 :: u158 :: u159 :: u160 :: u161 :: u162 :: u163 :: u164 :: u165 :: u166 :: u167 :: u168 :: u169 :: u170 :: u171 :: u172 :: u173 :: u174 :: u175 :: u176 :: u177 :: u178 :: u179 :: u180 :: u181 :: u182 :: u183 :: u184 :: u185 :: u186 :: u187 :: u188 :: u189 :: u190 :: u191 :: u192 :: u193 :: u194 :: u195 :: u196 :: u197 :: u198 :: u199 :: u200 :: u201 :: u202 :: u203 :: u204 :: u205 :: u206 :: u207 :: u208 :: u209 :: u210 :: u211 :: u212 :: u213 :: u214 :: u215 :: u216 :: u217 :: u218 :: u219 :: u220 :: u221 :: u222 :: u223 :: u224 :: u225 :: u226 :: u227 :: u228 :: u229 :: u230 :: u231 :: u232 :: u233 :: u234 :: u235 :: u236 :: u237 :: u238 :: u239 :: u240 :: u241 :: u242 :: u243 :: u244 :: u245 :: u246 :: u247 :: u248 :: u249 :: u250 :: u251 :: u252 :: u253 :: []).toArray, []⟩ w') :
    Code.wp Tryd.prog (Code.loop ((loopsOf (Tryd.f31.body.getD .skip)).getD 2 .skip)) Q0 ⟨(c0 :: c1 :: c2 :: .slice (some ⟨mb, mo, none⟩) M.length cm :: c4 :: c5 :: .pointer (some ⟨Hb, 0, none⟩) :: .pointer (some ⟨Kb, 0, none⟩) :: .int .i64 0 :: u9 :: u10 :: u11 :: u12 :: u13 :: u14 :: u15 :: u16 :: u17 :: u18 :: u19 :: u20 :: u21 :: u22 :: u23 :: u24 :: u25 :: u26 :: u27 :: u28 :: u29 :: u30 :: u31 :: u32 :: u33 :: u34 :: u35 :: u36 :: u37 :: u38 :: u39 :: u40 :: u41 :: u42 :: u43 :: u44 :: u45 :: u46 :: u47 :: u48 :: u49 :: u50 :: u51 :: u52 :: u53 :: u54 :: u55 :: u56 :: u57 :: u58 :: u59 :: u60 :: u61 :: u62 :: u63 :: u64 :: u65 :: u66 :: u67 :: u68 :: u69 :: u70 :: u71 :: u72 :: u73 :: u74 :: u75 :: u76 :: u77 :: u78 :: u79 :: u80 :: u81 :: u82 :: u83 :: u84 :: u85 :: u86 :: u87 :: u88 :: u89 :: u90 :: u91 :: u92 :: u93 :: u94 :: u95 :: u96 :: u97 :: u98 :: u99 :: u100 :: u101 :: u102 :: u103 :: u104 :: u105 :: u106 :: u107 :: u108 :: u109 :: u110 :: u111 :: u112 :: u113 :: u114 :: u115 :: u116 :: u117 :: u118 :: u119 :: u120 :: u121 :: u122 :: u123 :: u124 :: u125 :: u126 :: u127 :: u128 :: u129 :: u130 :: u131 :: u132 :: u133 :: u134 :: u135 :: u136 :: u137 :: u138 :: u139 :: u140 :: u141 :: u142 :: u143 :: u144 :: u145 :: u146 :: u147 :: u148 :: u149 :: u150 :: u151 :: u152 :: u153 :: u154 :: u155 :: u156 :: u157 :: u158 :: u159 :: u160 :: u161 :: u162 :: u163 :: u164 :: u165 :: u166 :: u167 :: u168 :: u169 :: u170 :: u171 :: u172 :: u173 :: u174 :: u175 :: u176 :: u177 :: u178 :: u179 :: u180 :: u181 :: u182 :: u183 :: u184 :: u185 :: u186 :: u187 :: u188 :: u189 :: u190 :: u191 :: u192 :: u193 :: u194 :: u195 :: u196 :: u197 :: u198 :: u199 :: u200 :: u201 :: u202 :: u203 :: u204 :: u205 :: u206 :: u207 :: u208 :: u209 :: u210 :: u211 :: u212 :: u213 :: u214 :: u215 :: u216 :: u217 :: u218 :: u219 :: u220 :: u221 :: u222 :: u223 :: u224 :: u225 :: u226 :: u227 :: u228 :: u229 :: u230 :: u231 :: u232 :: u233 :: u234 :: u235 :: u236 :: u237 :: u238 :: u239 :: u240 :: u241 :: u242 :: u243 :: u244 :: u245 :: u246 :: u247 :: u248 :: u249 :: u250 :: u251 :: u252 :: u253 :: []).toArray, []⟩ w := by
  have HR := hide hR
  have HE := hide hexit
  clear hR hexit
  conv => arg 2; arg 1; whnf
  go_loopw [8] (fun i wr => ∃ j : Nat, 64 * j ≤ M.length ∧ i = .int .i64 (64 * (j : Int)) ∧ RefAt w0 Hb Kb (.slice (some ⟨mb, mo, none⟩) M.length cm) M (stTo M j) wr) (fun i _ => M.length - (intOf i).toNat)
  case atStart => exact ⟨0, by omega, rfl, unhide HR⟩
  case round =>
    obtain ⟨j, hj, rfl, hR⟩ := hrel
    clear HR
    by_cases hlt : 64 * j < M.length
    · have hj64 : 64 * j + 64 ≤ M.length := by omega
      have hML : (M.length : Int) ≤ 1048800 := by omega
      have hlI : 64 * (j : Int) < (M.length : Int) := by omega
      have HR1 := hide (hR.alloc (.cells (List.replicate 64 (Value.int .u32 0)).toArray 70))
      have hlt1 := hR.lt
      have hmb : M ≠ [] := fun e => by rw [e] at hj64; simp at hj64
      have hold := hR.m.old hmb mb rfl
      have HR := hide hR
      clear hR HE
      go_wp2
      refine ref_sched M j hj64 hM mb mo cm wr.heap.size (by omega) hcm (wr.alloc (.cells (List.replicate 64 (Value.int .u32 0)).toArray 70)) ((unhide HR1).m.range hmb) (heap_alloc_new wr _) _ _ _ _ _ _ _ _ _ _ _ _ _ _ _ _ _ _ _ _ _ _ _ _ _ _ _ _ _ _ _ _ _ _ _ _ _ _ _ _ _ _ _ _ _ _ _ _ _ _ _ _ _ _ _ _ _ _ _ _ _ _ _ _ _ _ _ _ _ _ _ _ _ _ _ _ _ _ _ _ _ _ _ _ _ _ _ _ _ _ _ _ _ _ _ _ _ _ _ _ _ _ _ _ _ _ _ _ _ _ _ _ _ _ _ _ _ _ _ _ _ _ _ _ _ _ _ _ _ _ _ _ _ _ _ _ _ _ _ _ _ _ _ _ _ _ _ _ _ _ _ _ _ _ _ _ _ _ _ _ _ _ _ _ _ _ _ _ _ _ _ _ _ _ _ _ _ _ _ _ _ _ _ _ _ _ _ _ _ _ _ _ _ _ _ _ _ _ _ _ _ _ _ _ _ _ _ _ _ _ _ _ _ _ _ _ _ _ _ _ _ _ _ _ _ _ _ _ _ _ _ _ _ _ _ _ _ _ _ _ _ _ _ _ _ _ _ _ _ _ _ ?_
      intro u10 u11 u12 u13 u58 u59 u60 u61 u62 u63 u64 u65 u66 u67 u68 u69 u70 u71 u72 u73 u74 u75 u76 u77 u78 u79 u80 u81 u82 u83 u84 u85 u86 u87 u88 u89 u90 u91 u92 u93 u94 u95 u96 u97 u98 u99 u100 u101 u102 u103 u104 u105 u106 u107 u108 u109 u110 u111 u112 u113 u114 u115 u116 u117 u118 u119 u120 u121 u122 u123 u124 u125 u126 u127 u128 u129 u130 u131 u132 u133 u134 u135 w1 hW1 hG1
      have hR1 := (unhide HR1).grown hG1 hlt1 (fun e => by have e2 : mb = wr.heap.size := Option.some.inj e; omega)
      have hs1 : wr.heap.size < w1.heap.size := (Array.getElem?_eq_some_iff.1 hW1).1
      have HW1 := hide hW1
      have HR2 := hide hR1
      generalize hWb : wr.heap.size = Wb at *
      clear HR HR1 hG1 hW1 hR1
      have hm1 : mb < w1.heap.size := by omega
      have hss : (((stTo M j).map wv).toArray).size = 8 := by simp [length_stTo]
      have h1H := one_words (stTo M j)
      have hHW : (w1.alloc (.cells ((stTo M j).map wv).toArray 69)).heap[w1.heap.size]? = some (.cells ((stTo M j).map wv).toArray 69 (0, 0)) := heap_alloc_new _ _
      have hRv := (unhide HR2).alloc (.cells ((stTo M j).map wv).toArray 69)
      have hH1 := (unhide HR2).h
      have hWv : (w1.alloc (.cells ((stTo M j).map wv).toArray 69)).heap[Wb]? = some (.cells ((wordsTo ((M.drop (64 * j)).take 64) 64).map wv).toArray 70 (0, 0)) := by rw [heap_alloc_old _ _ hs1]; exact unhide HW1
      have hrw := fun (c : Array Value) => World.setRow_alloc_new w1 c ((stTo M j).map wv).toArray 69
      generalize hE1 : w1.alloc (.cells ((stTo M j).map wv).toArray 69) = W1 at hHW hRv hWv hrw
      generalize hhh : ((stTo M j).map wv).toArray = ss at hss h1H hHW hrw hH1 hE1
      have Hhh := hide hhh
      have H1H := hide h1H
      have HHW := hide hHW
      have HRv := hide hRv
      have HWv := hide hWv
      have HH1 := hide hH1
      clear hhh h1H hHW hRv hWv hH1 hE1 HR2 HW1
      go_wp2_with (first | (refine wpList_load_row rfl 69 _ rfl Hb rfl 69 ss (0, 0) _ (unhide HH1) Tryd.underlying69 rfl (by rw [hss]; kernel_rfl) ?_) | (refine wpList_store_row rfl 69 _ _ rfl w1.heap.size ss rfl rfl 69 _ (heap_alloc_new w1 _) (by rw [hss]; kernel_rfl) (by rw [hss]; rfl) (unhide H1H) ?_))
      have hst8 := length_stTo M j
      have hl8 := list_ofList8 _ hst8
      have hV5 : W1.heap[w1.heap.size]? = some (.cells ((ofList8 (stTo M j)).list.map wv).toArray 69 (0, 0)) := by rw [hl8, unhide Hhh]; exact unhide HHW
      refine ref_rounds (ofList8 (stTo M j)) (wordsTo ((M.drop (64 * j)).take 64) 64) (length_wordsTo _ _) Kb Wb w1.heap.size (by omega) (by omega) W1 (unhide HRv).k (unhide HWv) hV5 _ _ _ _ _ _ _ _ _ _ _ _ _ _ _ _ _ _ _ _ _ _ _ _ _ _ _ _ _ _ _ _ _ _ _ _ _ _ _ _ _ _ _ _ _ _ _ _ _ _ _ _ _ _ _ _ _ _ _ _ _ _ _ _ _ _ _ _ _ _ _ _ _ _ _ _ _ _ _ _ _ _ _ _ _ _ _ _ _ _ _ _ _ _ _ _ _ _ _ _ _ _ _ _ _ _ _ _ _ _ _ _ _ _ _ _ _ _ _ _ _ _ _ _ _ _ _ _ _ _ _ _ _ _ _ _ _ _ _ _ _ _ _ _ _ _ _ _ _ _ _ _ _ _ _ _ _ _ _ _ _ _ _ _ _ _ _ _ _ _ _ _ _ _ _ _ _ _ _ _ _ _ _ _ _ _ _ _ _ _ _ _ _ _ _ _ _ _ _ _ _ _ _ _ _ _ _ _ _ _ _ _ _ _ _ _ _ _ _ _ _ _ _ _ _ _ _ _ _ _ _ _ _ _ _ _ _ _ _ _ _ _ _ _ _ _ _ _ _ _ _ ?_
      intro u15 u16 u17 u18 u137 u138 u139 u140 u141 u142 u143 u144 u145 u146 u147 u148 u149 u150 u151 u152 u153 u154 u155 u156 u157 u158 u159 u160 u161 u162 u163 u164 u165 u166 u167 u168 u169 u170 u171 u172 u173 u174 u175 u176 u177 u178 u179 u180 u181 u182 u183 u184 u185 u186 u187 u188 u189 u190 u191 u192 u193 u194 u195 u196 u197 u198 u199 u200 u201 u202 u203 u204 u205 u206 u207 u208 u209 u210 u211 u212 u213 u214 u215 u216 u217 u218 u219 u220 u221 u222 u223 w2 hV2 hG2
      have hR2 := (unhide HRv).grown hG2 (by omega) (fun e => by have e2 : mb = w1.heap.size := Option.some.inj e; omega)
      have HR3 := hide hR2
      have HV2 := hide hV2
      clear hV2 hG2 hR2 hV5 HRv HWv HHW HH1 H1H hrw hss Hhh
      go_wp2
      refine ref_add (stTo M j) (roundsTo (ofList8 (stTo M j)) (wordsTo ((M.drop (64 * j)).take 64) 64) 64).list hst8 rfl Hb w1.heap.size (by have := (unhide HR3).kb; omega) w2 (unhide HR3).h (unhide HV2) _ _ _ _ _ _ _ _ _ _ _ _ _ _ _ _ _ _ _ _ _ _ _ _ _ _ _ _ _ _ _ _ _ _ _ _ _ _ _ _ _ _ _ _ _ _ _ _ _ _ _ _ _ _ _ _ _ _ _ _ _ _ _ _ _ _ _ _ _ _ _ _ _ _ _ _ _ _ _ _ _ _ _ _ _ _ _ _ _ _ _ _ _ _ _ _ _ _ _ _ _ _ _ _ _ _ _ _ _ _ _ _ _ _ _ _ _ _ _ _ _ _ _ _ _ _ _ _ _ _ _ _ _ _ _ _ _ _ _ _ _ _ _ _ _ _ _ _ _ _ _ _ _ _ _ _ _ _ _ _ _ _ _ _ _ _ _ _ _ _ _ _ _ _ _ _ _ _ _ _ _ _ _ _ _ _ _ _ _ _ _ _ _ _ _ _ _ _ _ _ _ _ _ _ _ _ _ _ _ _ _ _ _ _ _ _ _ _ _ _ _ _ _ _ _ _ _ _ _ _ _ _ _ _ _ _ _ _ _ _ _ _ _ _ _ _ _ _ _ _ _ _ ?_
      intro u19 u224 u225 u226 u227 u228 u229 u230 u231 u232 u233 u234 u235 w3 hH3 hG3
      have hR4 : RefAt w0 Hb Kb (.slice (some ⟨mb, mo, none⟩) M.length cm) M (stTo M (j + 1)) w3 := (unhide HR3).grownH hG3 hH3
      have HR4 := hide hR4
      clear hH3 hG3 hR4 HR3 HV2 hl8 hst8
      go_wp2
      go_roundw
      case rel =>
        have hi : Value.int .i64 (64 * (j : Int) + 64) = .int .i64 (64 * ((j + 1 : Nat) : Int)) := congrArg _ (by omega)
        first
          | exact ⟨j + 1, by omega, hi, unhide HR4⟩
          | ((repeat apply Exists.intro); exact ⟨⟨j + 1, by omega, hi, unhide HR4⟩, rfl⟩)
          | (trace_state; fail)
      case measure => simp [intOf]; omega
    · have hje : M.length / 64 = j := by omega
      have HR := hide hR
      have hML : (M.length : Int) ≤ 1048800 := by omega
      have hnl : ¬ 64 * (j : Int) < (M.length : Int) := by omega
      rw [← hje] at HR
      clear hR hlt
      go_wp2
      exact unhide HE _ _ _ _ _ _ _ _ _ _ _ _ _ _ _ _ _ _ _ _ _ _ _ _ _ _ _ _ _ _ _ _ _ _ _ _ _ _ _ _ _ _ _ _ _ _ _ _ _ _ _ _ _ _ _ _ _ _ _ _ _ _ _ _ _ _ _ _ _ _ _ _ _ _ _ _ _ _ _ _ _ _ _ _ _ _ _ _ _ _ _ _ _ _ _ _ _ _ _ _ _ _ _ _ _ _ _ _ _ _ _ _ _ _ _ _ _ _ _ _ _ _ _ _ _ _ _ _ _ _ _ _ _ _ _ _ _ _ _ _ _ _ _ _ _ _ _ _ _ _ _ _ _ _ _ _ _ _ _ _ _ _ _ _ _ _ _ _ _ _ _ _ _ _ _ _ _ _ _ _ _ _ _ _ _ _ _ _ _ _ _ _ _ _ _ _ _ _ _ _ _ _ _ _ _ _ _ _ _ _ _ _ _ _ _ _ _ _ _ _ _ _ _ _ _ _ _ _ _ _ _ _ _ _ _ _ _ _ _ _ _ _ _ _ _ _ _ (unhide HR)
end Go.Proofs.YtmhlafhbdpeglaaDoor.Sha
namespace Go.Proofs.YtmhlafhbdpeglaaDoor.Sha
open Go.RowKit
theorem byte_form2 (told k : Nat) : (told : Int) * 8 / 2 ^ (56 - 8 * k) % 256 = ib (byteAt (8 * told) k) := by
  rw [← byte_form told k, Int.mul_comm]
theorem OwnB.form {w : World} {B : Nat} {v : Value} {l : List UInt8} (h : OwnB w B v l) : ∃ sp c, v = .slice sp l.length c := by
  obtain ⟨sp, c, e, _⟩ := h.bytes
  exact ⟨sp, c, e⟩
theorem built_H : Tryd.prog.built 69 [(0, .int .u32 1779033703), (1, .int .u32 3144134277), (2, .int .u32 1013904242), (3, .int .u32 2773480762), (4, .int .u32 1359893119), (5, .int .u32 2600822924), (6, .int .u32 528734635), (7, .int .u32 1541459225)] = some (hTab.map wv).toArray := by kernel_rfl
set_option maxRecDepth 1000000 in
set_option maxHeartbeats 4000000 in
theorem refSum_any (w : World) (sp : Option Addr) (c : Nat) (l : List UInt8) (hx : BytesAt w (.slice sp l.length c) l) (hl : l.length ≤ 1048576) :
    Calls Tryd.prog 31 #[.slice sp l.length c] w fun e w' => ∃ v, e = .returned v ∧ OwnB w' w.heap.size v (shaOf l) ∧ Below w.heap.size w w' := by
  generalize hz : (119 - l.length % 64) % 64 = z
  have hz63 : z ≤ 63 := by omega
  have hb1 : Below w.heap.size w (w.alloc (.cells #[] 5)) := (Below.refl _ _).alloc (Nat.le_refl _) _
  have hO0 : OwnB (w.alloc (.cells #[] 5)) w.heap.size (.slice (some ⟨w.heap.size, 0, none⟩) 0 0) [] :=
    ⟨rfl, Or.inr ⟨w.heap.size, 0, #[], rfl, Nat.le_refl _, heap_alloc_new w _, Nat.le_refl _, Nat.zero_le _, rfl, rfl⟩⟩
  have Hx1 := hide (hx.below hb1)
  have HO0 := hide hO0
  have Hb1 := hide hb1
  have Hz := hide hz
  have hll : (l.length : Int) ≤ 1048576 := by omega
  clear hb1 hO0 hz hx
  go_enter Tryd.func31, Tryd.ntmps31
  go_wp2_with (first
    | (at_builtin; refine wpList_append_bytes rfl _ _ rfl w.heap.size (.slice (some ⟨w.heap.size, 0, none⟩) 0 0) (.slice sp l.length c) [] l rfl (unhide HO0) rfl (unhide Hx1) (by simp) (by simp; omega) ?_; intro v1 w1 hO1 hg1; have hs1 : w.heap.size ≤ w1.heap.size := by (have := hg1.size; simp at this; omega))
    | (at_builtin; refine wpList_append_bytes rfl _ _ rfl w.heap.size v1 (.slice (some ⟨w1.heap.size, 0, none⟩) 1 1) l [128] rfl (OwnB.alloc hO1 _) rfl (bytes_new w1 [128] 5 (by simp)) (by simp; omega) (by simp; omega) ?_; intro v2 w2 hO2 hg2))
  have hb1' : Below w.heap.size w w1 := Fresh.grown (unhide HO0) hg1 (unhide Hb1) (by simp)
  have hb2 : Below w.heap.size w w2 := Fresh.grown (OwnB.alloc hO1 _) hg2 (hb1'.alloc hs1 _) (by simp; omega)
  have HO2 := hide hO2
  have HB2 := hide hb2
  clear hO1 hg1 hO2 hg2 hb1' hb2 HO0 Hb1 Hx1
  go_loopw [3] (fun v wr => ∃ j : Nat, j ≤ z ∧ OwnB wr w.heap.size v (l ++ 128 :: List.replicate j 0) ∧ Below w.heap.size w wr) (fun v _ => l.length + 1 + z - lenVal v)
  case atStart => exact ⟨0, by omega, unhide HO2, unhide HB2⟩
  case round =>
    obtain ⟨j, hj, hO, hB⟩ := hrel
    clear HO2 HB2
    have hlm : (l ++ 128 :: List.replicate j (0 : UInt8)).length = l.length + 1 + j := by simp; omega
    obtain ⟨sp', c', rfl⟩ := hO.form
    rw [hlm] at hO ⊢
    generalize hN : l.length + 1 + j = N at hO hlm ⊢
    have HN := hide hN
    have hNb : N ≤ 1048640 := by omega
    have hS := hB.size
    have HO := hide hO
    have HB := hide hB
    have hzz := unhide Hz
    by_cases hlt : j < z
    · have ht : ((N : Int)).tmod 64 = ((N % 64 : Nat) : Int) := by rw [Int.tmod_eq_emod_of_nonneg (by omega)]; omega
      have hne : (((N % 64 : Nat) : Int) != 56) = true := by rw [bne_iff_ne]; omega
      clear hO hB hzz hN
      go_wp2_with (at_builtin; refine wpList_append_bytes rfl _ _ rfl w.heap.size (.slice sp' N c') (.slice (some ⟨wr.heap.size, 0, none⟩) 1 1) (l ++ 128 :: List.replicate j 0) [0] rfl (OwnB.alloc (unhide HO) _) rfl (bytes_new wr [0] 5 (by simp)) (by simp; omega) (by rw [hlm]; simp; omega) ?_; intro v3 w3 hO3 hg3)
      have hb3 : Below w.heap.size w w3 := Fresh.grown (OwnB.alloc (unhide HO) _) hg3 ((unhide HB).alloc hS _) (by simp; omega)
      have hO4 : OwnB w3 w.heap.size v3 (l ++ 128 :: List.replicate (j + 1) 0) := by
        have e : (l ++ 128 :: List.replicate j (0 : UInt8)) ++ [0] = l ++ 128 :: List.replicate (j + 1) 0 := by
          rw [List.replicate_succ']; simp
        rw [← e]; exact hO3
      obtain ⟨sp4, c4, rfl⟩ := hO4.form
      clear hO3 hg3
      go_roundw
      case rel =>
        first
          | exact ⟨j + 1, by omega, hO4, hb3⟩
          | ((repeat apply Exists.intro); exact ⟨⟨j + 1, by omega, hO4, hb3⟩, rfl⟩)
      case measure => (have := unhide HN; simp [lenVal]; omega)
    · obtain rfl : j = z := by omega
      have ht : ((N : Int)).tmod 64 = 56 := by rw [Int.tmod_eq_emod_of_nonneg (by omega)]; omega
      clear hO hB hzz hN
      go_wp2
      have hmz : l ++ 128 :: List.replicate j 0 = l ++ padHead l.length := by unfold padHead; rw [unhide Hz]
      rw [hmz] at HO
      clear hmz ht hlt hlm HN hNb
      go_loopw [3, 5] (fun v i wr => ∃ k : Nat, k ≤ 8 ∧ i = .int .i64 (56 - 8 * (k : Int)) ∧ OwnB wr w.heap.size v (l ++ padHead l.length ++ bytesTo (8 * l.length) k) ∧ Below w.heap.size w wr) (fun _ i _ => (intOf i + 8).toNat)
      case atStart => exact ⟨0, by omega, rfl, by rw [bytesTo, List.append_nil]; exact unhide HO, unhide HB⟩
      case round =>
        obtain ⟨k, hk, rfl, hO, hB⟩ := hrel
        clear HO HB
        have hS := hB.size
        by_cases hlt : k < 8
        · have hO1 := hide hO
          clear hO
          have hv : (l.length : Int) * 8 / 2 ^ (56 - 8 * k) % 256 = ib (byteAt (8 * l.length) k) := byte_form2 l.length k
          have HBk : Hid (bytesTo (8 * l.length) (k + 1) = bytesTo (8 * l.length) k ++ [byteAt (8 * l.length) k]) := rfl
          generalize byteAt (8 * l.length) k = B at hv HBk
          have hln : (l ++ padHead l.length ++ bytesTo (8 * l.length) k).length + 1 ≤ 1073741824 := by
            rw [List.length_append, List.length_append, length_bytesTo]; simp only [padHead, List.length_cons, List.length_replicate]; omega
          have Hln := hide hln
          clear hln
          have k8 : 8 * (k : Int) ≤ 56 := by omega
          go_wp2_with (at_builtin; refine wpList_append_bytes rfl _ _ rfl w.heap.size _ _ (l ++ padHead l.length ++ bytesTo (8 * l.length) k) [B] rfl ((unhide hO1).alloc _) rfl (bytes_new wr [B] 5 (by simp)) (by simp; omega) (unhide Hln) ?_; intro v' w' hO2 hg2)
          go_roundw
          case rel =>
            have hO3 : OwnB w' w.heap.size v' (l ++ padHead l.length ++ bytesTo (8 * l.length) (k + 1)) := by rw [unhide HBk, ← List.append_assoc]; exact hO2
            have hB3 : Below w.heap.size w w' := Fresh.grown ((unhide hO1).alloc _) hg2 (hB.alloc hS _) (by simp; omega)
            have hi : Value.int .i64 (56 - 8 * (k : Int) - 8) = .int .i64 (56 - 8 * ((k + 1 : Nat) : Int)) := congrArg _ (by omega)
            first
              | exact ⟨k + 1, by omega, hi, hO3, hB3⟩
              | ((repeat apply Exists.intro); exact ⟨⟨k + 1, by omega, hi, hO3, hB3⟩, rfl⟩)
          case measure => simp [intOf]; omega
        · obtain rfl : k = 8 := by omega
          have hpm : l ++ padHead l.length ++ bytesTo (8 * l.length) 8 = l ++ padOf l.length := by unfold padOf; rw [List.append_assoc]
          rw [hpm] at hO
          obtain ⟨mb, mo, cm, rfl, hcm, _⟩ := hO.bytes.cell (by unfold padOf padHead; simp)
          have HM := hide hO.bytes
          have HB := hide hB
          generalize hM : l ++ padOf l.length = M at HM hcm ⊢
          have HMe := hide hM
          have hMl : M.length % 64 = 0 ∧ M.length ≤ 1048800 ∧ M ≠ [] := by
            refine ⟨by rw [← hM, List.length_append]; exact length_padOf l.length, ?_, ?_⟩
            · rw [← hM]; unfold padOf padHead; simp only [List.length_append, List.length_cons, List.length_replicate, length_bytesTo]; omega
            · rw [← hM]; unfold padOf padHead; simp
          have hbH := built_H
          have hzH : (hTab.map wv).toArray.size = 8 := rfl
          have h1H := one_words hTab
          have hne0 : Value.ownBlock (.slice (some ⟨mb, mo, none⟩) M.length cm) ≠ some wr.heap.size := fun e => by have := (unhide HM).old hMl.2.2 _ e; omega
          have hbW : Below wr.heap.size wr (wr.alloc (.cells (hTab.map wv).toArray 69)) := (Below.refl _ _).alloc (Nat.le_refl _) _
          have hHW : (wr.alloc (.cells (hTab.map wv).toArray 69)).heap[wr.heap.size]? = some (.cells (hTab.map wv).toArray 69 (0, 0)) := heap_alloc_new _ _
          have hrw := fun (c : Array Value) => World.setRow_alloc_new wr c (hTab.map wv).toArray 69
          generalize hE1 : wr.alloc (.cells (hTab.map wv).toArray 69) = W1 at hbW hHW hrw
          have hsW : W1.heap.size = wr.heap.size + 1 := by rw [← hE1]; simp
          generalize hhh : (hTab.map wv).toArray = hh at hbH hzH h1H hHW hrw hE1
          have Hhh := hide hhh
          have HbH := hide hbH
          have H1H := hide h1H
          have HbW := hide hbW
          have HHW := hide hHW
          have Hne0 := hide hne0
          have HsW := hide hsW
          have HMl := hide hMl
          generalize hHb : wr.heap.size = Hb at *
          clear hO hB hM hhh hbH h1H hlt hk hpm hbW hHW hE1 hne0 hsW hMl
          go_wp2_with (first | (refine wpList_build_of rfl 69 _ rfl hh (by simp [go_sem, unhide HbH]) ?_) | (refine wpList_store_row rfl 69 _ _ rfl Hb hh rfl rfl 69 _ (by rw [← hHb]; exact heap_alloc_new wr _) (by rw [hzH]; kernel_rfl) (by rw [hzH]; rfl) (unhide H1H) ?_))
          refine (refK_any W1).mono ?_
          rintro e w2 ⟨rfl, hb2⟩
          have hRA : RefAt w Hb w2.heap.size (.slice (some ⟨mb, mo, none⟩) M.length cm) M hTab (w2.alloc (.cells (kTab.map wv).toArray 70)) := by
            have hs2 := hb2.size
            have hsW := unhide HsW
            have b3 : Below w2.heap.size w2 (w2.alloc (.cells (kTab.map wv).toArray 70)) := (Below.refl _ _).alloc (Nat.le_refl _) _
            have b02 : Below wr.heap.size wr w2 := by rw [hHb]; exact (unhide HbW).trans (hb2.mono (by omega))
            have b03 : Below wr.heap.size wr (w2.alloc (.cells (kTab.map wv).toArray 70)) := b02.trans (b3.mono b02.size)
            refine ⟨?_, heap_alloc_new _ _, (unhide HM).below b03, (unhide HB).trans (b03.mono (unhide HB).size), by rw [← hHb]; exact (unhide HB).size, by omega, unhide Hne0⟩
            rw [heap_alloc_old _ _ (by omega), hb2.block _ (by omega), unhide Hhh]; exact unhide HHW
          have hzK : (kTab.map wv).toArray.size = 64 := rfl
          have h1K := one_words kTab
          have hrw2 := fun (c : Array Value) => World.setRow_alloc_new w2 c (kTab.map wv).toArray 70
          have hs3 : (w2.alloc (.cells (kTab.map wv).toArray 70)).heap.size = w2.heap.size + 1 := by simp
          generalize w2.alloc (.cells (kTab.map wv).toArray 70) = W3 at hRA hrw2 hs3
          generalize (kTab.map wv).toArray = kk at hzK h1K hrw2 ⊢
          have HRA := hide hRA
          have H1K := hide h1K
          generalize hKb : w2.heap.size = Kb at *
          have HKb := hide hKb
          have HHb := hide hHb
          clear hRA h1K hb2 HM HB Hhh HbH H1H HbW HHW Hne0 HsW hrw hzH
          go_wp2_with (refine wpList_store_row rfl 70 _ _ rfl Kb kk rfl rfl 70 _ (by rw [← hKb]; exact heap_alloc_new w2 _) (by rw [hzK]; kernel_rfl) (by rw [hzK]; rfl) (unhide H1K) ?_)
          have hM3 := unhide HMl
          refine ref_blocks w Hb Kb mb mo cm M hM3.1 hM3.2.1 hcm W3 (unhide HRA) _ _ _ _ _ _ _ _ _ _ _ _ _ _ _ _ _ _ _ _ _ _ _ _ _ _ _ _ _ _ _ _ _ _ _ _ _ _ _ _ _ _ _ _ _ _ _ _ _ _ _ _ _ _ _ _ _ _ _ _ _ _ _ _ _ _ _ _ _ _ _ _ _ _ _ _ _ _ _ _ _ _ _ _ _ _ _ _ _ _ _ _ _ _ _ _ _ _ _ _ _ _ _ _ _ _ _ _ _ _ _ _ _ _ _ _ _ _ _ _ _ _ _ _ _ _ _ _ _ _ _ _ _ _ _ _ _ _ _ _ _ _ _ _ _ _ _ _ _ _ _ _ _ _ _ _ _ _ _ _ _ _ _ _ _ _ _ _ _ _ _ _ _ _ _ _ _ _ _ _ _ _ _ _ _ _ _ _ _ _ _ _ _ _ _ _ _ _ _ _ _ _ _ _ _ _ _ _ _ _ _ _ _ _ _ _ _ _ _ _ _ _ _ _ _ _ _ _ _ _ _ _ _ _ _ _ _ _ _ _ _ _ _ _ _ _ _ _ _ _ _ ?_
          intro u8 u9 u10 u11 u12 u13 u14 u15 u16 u17 u18 u19 u20 u21 u22 u23 u24 u25 u26 u27 u28 u29 u30 u31 u32 u33 u34 u35 u36 u37 u38 u39 u40 u41 u42 u43 u44 u45 u46 u47 u48 u49 u50 u51 u52 u53 u54 u55 u56 u57 u58 u59 u60 u61 u62 u63 u64 u65 u66 u67 u68 u69 u70 u71 u72 u73 u74 u75 u76 u77 u78 u79 u80 u81 u82 u83 u84 u85 u86 u87 u88 u89 u90 u91 u92 u93 u94 u95 u96 u97 u98 u99 u100 u101 u102 u103 u104 u105 u106 u107 u108 u109 u110 u111 u112 u113 u114 u115 u116 u117 u118 u119 u120 u121 u122 u123 u124 u125 u126 u127 u128 u129 u130 u131 u132 u133 u134 u135 u136 u137 u138 u139 u140 u141 u142 u143 u144 u145 u146 u147 u148 u149 u150 u151 u152 u153 u154 u155 u156 u157 u158 u159 u160 u161 u162 u163 u164 u165 u166 u167 u168 u169 u170 u171 u172 u173 u174 u175 u176 u177 u178 u179 u180 u181 u182 u183 u184 u185 u186 u187 u188 u189 u190 u191 u192 u193 u194 u195 u196 u197 u198 u199 u200 u201 u202 u203 u204 u205 u206 u207 u208 u209 u210 u211 u212 u213 u214 u215 u216 u217 u218 u219 u220 u221 u222 u223 u224 u225 u226 u227 u228 u229 u230 u231 u232 u233 u234 u235 u236 u237 u238 u239 u240 u241 u242 u243 u244 u245 u246 u247 u248 u249 u250 u251 u252 u253 w4 hR4
          have hs4 := hR4.bel.size
          have HR4 := hide hR4
          clear hM3 hR4 HRA hrw2 hzK H1K
          go_wp2
          refine ref_out (stTo M (M.length / 64)) (length_stTo _ _) Hb w4 (unhide HR4).h _ _ _ _ _ _ _ _ _ _ _ _ _ _ _ _ _ _ _ _ _ _ _ _ _ _ _ _ _ _ _ _ _ _ _ _ _ _ _ _ _ _ _ _ _ _ _ _ _ _ _ _ _ _ _ _ _ _ _ _ _ _ _ _ _ _ _ _ _ _ _ _ _ _ _ _ _ _ _ _ _ _ _ _ _ _ _ _ _ _ _ _ _ _ _ _ _ _ _ _ _ _ _ _ _ _ _ _ _ _ _ _ _ _ _ _ _ _ _ _ _ _ _ _ _ _ _ _ _ _ _ _ _ _ _ _ _ _ _ _ _ _ _ _ _ _ _ _ _ _ _ _ _ _ _ _ _ _ _ _ _ _ _ _ _ _ _ _ _ _ _ _ _ _ _ _ _ _ _ _ _ _ _ _ _ _ _ _ _ _ _ _ _ _ _ _ _ _ _ _ _ _ _ _ _ _ _ _ _ _ _ _ _ _ _ _ _ _ _ _ _ _ _ _ _ _ _ _ _ _ _ _ _ _ _ _ _ _ _ _ _ _ _ _ _ _ _ _ _ _ _ _ ?_
          intro v u21 u236 u237 u238 u239 u240 u241 u242 u243 u244 u245 u246 u247 u248 u249 u250 u251 u252 w5 hO5 hB5
          have hO6 : OwnB w5 w.heap.size v (shaOf l) := by rw [sha_blocks, unhide HMe]; exact hO5.mono hs4
          have hB6 : Below w.heap.size w w5 := (unhide HR4).bel.trans (hB5.mono hs4)
          have HO6 := hide hO6
          have HB6 := hide hB6
          clear hO5 hB5 hO6 hB6 HR4
          go_wp2
          go_ret
          exact ⟨_, rfl, unhide HO6, unhide HB6⟩
end Go.Proofs.YtmhlafhbdpeglaaDoor.Sha
