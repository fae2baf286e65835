/-
  The loop of the reference that lays the sum out of the state, walked by itself: its frame a letter a slot.
-/
import Derived.Test.YtlhjifdahagkaaaDoorM23
namespace Go.Proofs.YtlhjifdahagkaaaDoor.Sha
open Go.RowKit
/-- The bodies of a text's loops, in their order. -/
def loopsOf : Code → List Code
  | .loop c => c :: loopsOf c
  | .seq a b => loopsOf a ++ loopsOf b
  | .block _ c => loopsOf c
  | .scope c => loopsOf c
  | .cond _ a b => loopsOf a ++ loopsOf b
  | _ => []
set_option maxRecDepth 1000000 in
set_option maxHeartbeats 2000000 in
theorem ref_out (st : List UInt32) (hst8 : st.length = 8) (Hb : Nat) (w : World) (hH : w.heap[Hb]? = some (.cells (st.map wv).toArray 117 (0, 0))) (Q0 : Exit → Act → World → Prop)
    (c0 c1 c2 c3 c4 c5 c7 c8 c9 c10 c11 c12 c13 c14 c15 c16 c17 c18 c19 c22 c23 c24 c25 c26 c27 c28 c29 c30 c31 c32 c33 c34 c35 c36 c37 c38 c39 c40 c41 c42 c43 c44 c45 c46 c47 c48 c49 c50 c51 c52 c53 c54 c55 c56 c57 c58 c59 c60 c61 c62 c63 c64 c65 c66 c67 c68 c69 c70 c71 c72 c73 c74 c75 c76 c77 c78 c79 c80 c81 c82 c83 c84 c85 c86 c87 c88 c89 c90 c91 c92 c93 c94 c95 c96 c97 c98 c99 c100 c101 c102 c103 c104 c105 c106 c107 c108 c109 c110 c111 c112 c113 c114 c115 c116 c117 c118 c119 c120 c121 c122 c123 c124 c125 c126 c127 c128 c129 c130 c131 c132 c133 c134 c135 c136 c137 c138 c139 c140 c141 c142 c143 c144 c145 c146 c147 c148 c149 c150 c151 c152 c153 c154 c155 c156 c157 c158 c159 c160 c161 c162 c163 c164 c165 c166 c167 c168 c169 c170 c171 c172 c173 c174 c175 c176 c177 c178 c179 c180 c181 c182 c183 c184 c185 c186 c187 c188 c189 c190 c191 c192 c193 c194 c195 c196 c197 c198 c199 c200 c201 c202 c203 c204 c205 c206 c207 c208 c209 c210 c211 c212 c213 c214 c215 c216 c217 c218 c219 c220 c221 c222 c223 c224 c225 c226 c227 c228 c229 c230 c231 c232 c233 c234 c235 c253 u236 u237 u238 u239 u240 u241 u242 u243 u244 u245 u246 u247 u248 u249 u250 u251 u252 : Value)
    (hexit : ∀ (v : Value) (u21 u236 u237 u238 u239 u240 u241 u242 u243 u244 u245 u246 u247 u248 u249 u250 u251 u252 : Value) (w' : World), OwnB w' w.heap.size v (st.flatMap wordBytes) → Below w.heap.size w w' → Q0 (.exit 14) ⟨(c0 :: c1 :: c2 :: c3 :: c4 :: c5 :: .pointer (some ⟨Hb, 0, none⟩) :: c7 :: c8 :: c9 :: c10 :: c11 :: c12 :: c13 :: c14 :: c15 :: c16 :: c17 :: c18 :: c19 :: v :: u21 :: c22 :: c23 :: c24 :: c25 :: c26 :: c27 :: c28 :: c29 :: c30 :: c31 :: c32 :: c33 :: c34 :: c35 :: c36 :: c37 :: c38 :: c39 :: c40 :: c41 :: c42 :: c43 :: c44 :: c45 :: c46 :: c47 :: c48 :: c49 :: c50 :: c51 :: c52 :: c53 :: c54 :: c55 :: c56 :: c57 :: c58 :: c59 :: c60 :: c61 :: c62 :: c63 :: c64 :: c65 :: c66 :: c67 :: c68 :: c69 :: c70 :: c71 :: c72 :: c73 :: c74 :: c75 :: c76 :: c77 :: c78 :: c79 :: c80 :: c81 :: c82 :: c83 :: c84 :: c85 :: c86 :: c87 :: c88 :: c89 :: c90 :: c91 :: c92 :: c93 :: c94 :: c95 :: c96 :: c97 :: c98 :: c99 :: c100 :: c101 :: c102 :: c103 :: c104 :: c105 :: c106 :: c107 :: c108 :: c109 :: c110 :: c111 :: c112 :: c113 :: c114 :: c115 :: c116 :: c117 :: c118 :: c119 :: c120 :: c121 :: c122 :: c123 :: c124 :: c125 :: c126 :: c127 :: c128 :: c129 :: c130 :: c131 :: c132 :: c133 :: c134 :: c135 :: c136 :: c137 :: c138 :: c139 :: c140 :: c141 :: c142 :: c143 :: c144 :: c145 :: c146 :: c147 :: c148 :: c149 :: c150 :: c151 :: c152 :: c153 :: c154 :: c155 :: c156 :: c157 :: c158 :: c159 :: c160 :: c161 :: c162 :: c163 :: c164 :: c165 :: c166 :: c167 :: c168 :: c169 :: c170 :: c171 :: c172 :: c173 :: c174 :: c175 :: c176 :: c177 :: c178 :: c179 :: c180 :: c181 :: c182 :: c183 :: c184 :: c185 :: c186 :: c187 :: c188 :: c189 :: c190 :: c191 :: c192 :: c193 :: c194 :: c195 :: c196 :: c197 :: c198 :: c199 :: c200 :: c201 :: c202 :: c203 :: c204 :: c205 :: c206 :: c207 :: c208 :: c209 :: c210 :: c211 :: c212 :: c213 :: c214 :: c215 :: c216 :: c217 :: c218 :: c219 :: c220 :: c221 :: c222 :: c223 :: c224 :: c225 :: c226 :: c227 :: c228 :: c229 :: c230 :: c231 :: c232 :: c233 :: c234 :: c235 :: u236 :: u237 :: u238 :: u239 :: u240 :: u241 :: u242 :: u243 :: u244 :: u245 :: u246 :: u247 :: u248 :: u249 :: u250 :: u251 :: u252 :: c253 :: []).toArray, []⟩ w') :
    Code.wp Tryd.prog (Code.loop ((loopsOf (Tryd.f59.body.getD .skip)).getD 7 .skip)) Q0 ⟨(c0 :: c1 :: c2 :: c3 :: c4 :: c5 :: .pointer (some ⟨Hb, 0, none⟩) :: c7 :: c8 :: c9 :: c10 :: c11 :: c12 :: c13 :: c14 :: c15 :: c16 :: c17 :: c18 :: c19 :: .slice none 0 0 :: .int .i64 0 :: c22 :: c23 :: c24 :: c25 :: c26 :: c27 :: c28 :: c29 :: c30 :: c31 :: c32 :: c33 :: c34 :: c35 :: c36 :: c37 :: c38 :: c39 :: c40 :: c41 :: c42 :: c43 :: c44 :: c45 :: c46 :: c47 :: c48 :: c49 :: c50 :: c51 :: c52 :: c53 :: c54 :: c55 :: c56 :: c57 :: c58 :: c59 :: c60 :: c61 :: c62 :: c63 :: c64 :: c65 :: c66 :: c67 :: c68 :: c69 :: c70 :: c71 :: c72 :: c73 :: c74 :: c75 :: c76 :: c77 :: c78 :: c79 :: c80 :: c81 :: c82 :: c83 :: c84 :: c85 :: c86 :: c87 :: c88 :: c89 :: c90 :: c91 :: c92 :: c93 :: c94 :: c95 :: c96 :: c97 :: c98 :: c99 :: c100 :: c101 :: c102 :: c103 :: c104 :: c105 :: c106 :: c107 :: c108 :: c109 :: c110 :: c111 :: c112 :: c113 :: c114 :: c115 :: c116 :: c117 :: c118 :: c119 :: c120 :: c121 :: c122 :: c123 :: c124 :: c125 :: c126 :: c127 :: c128 :: c129 :: c130 :: c131 :: c132 :: c133 :: c134 :: c135 :: c136 :: c137 :: c138 :: c139 :: c140 :: c141 :: c142 :: c143 :: c144 :: c145 :: c146 :: c147 :: c148 :: c149 :: c150 :: c151 :: c152 :: c153 :: c154 :: c155 :: c156 :: c157 :: c158 :: c159 :: c160 :: c161 :: c162 :: c163 :: c164 :: c165 :: c166 :: c167 :: c168 :: c169 :: c170 :: c171 :: c172 :: c173 :: c174 :: c175 :: c176 :: c177 :: c178 :: c179 :: c180 :: c181 :: c182 :: c183 :: c184 :: c185 :: c186 :: c187 :: c188 :: c189 :: c190 :: c191 :: c192 :: c193 :: c194 :: c195 :: c196 :: c197 :: c198 :: c199 :: c200 :: c201 :: c202 :: c203 :: c204 :: c205 :: c206 :: c207 :: c208 :: c209 :: c210 :: c211 :: c212 :: c213 :: c214 :: c215 :: c216 :: c217 :: c218 :: c219 :: c220 :: c221 :: c222 :: c223 :: c224 :: c225 :: c226 :: c227 :: c228 :: c229 :: c230 :: c231 :: c232 :: c233 :: c234 :: c235 :: u236 :: u237 :: u238 :: u239 :: u240 :: u241 :: u242 :: u243 :: u244 :: u245 :: u246 :: u247 :: u248 :: u249 :: u250 :: u251 :: u252 :: c253 :: []).toArray, []⟩ w := by
  have HH := hide hH
  have HE := hide hexit
  clear hH hexit
  conv => arg 2; arg 1; whnf
  go_loopw [20, 21] (fun v i wq => ∃ k : Nat, k ≤ 32 ∧ i = .int .i64 k ∧ OwnB wq w.heap.size v ((st.flatMap wordBytes).take k) ∧ Below w.heap.size w wq) (fun _ i _ => 32 - (intOf i).toNat)
  case atStart => exact ⟨0, by omega, rfl, ⟨rfl, Or.inl ⟨rfl, rfl⟩⟩, Below.refl _ _⟩
  case round =>
    obtain ⟨k, hk, rfl, hO, hB⟩ := hrel
    have hS := hB.size
    have hH2 : wr.heap[Hb]? = some (.cells (st.map wv).toArray 117 (0, 0)) := by rw [hB.block _ (Array.getElem?_eq_some_iff.1 (unhide HH)).1]; exact unhide HH
    by_cases hlt : k < 32
    · have hq8 : k / 4 < 8 := by omega
      have cH := cell_of_row _ _ (k / 4) _ 117 (0, 0) hH2
      rw [getD_map_wv st (k / 4) (by omega)] at cH
      have hkk := take_flat st hst8 (k / 4) (k % 4) hq8 (by omega)
      rw [show 4 * (k / 4) + k % 4 = k from by omega] at hkk
      generalize st.getD (k / 4) 0 = x at cH hkk
      have q1 : ((k : Int)).tdiv 4 = ((k / 4 : Nat) : Int) := by rw [Int.tdiv_eq_ediv_of_nonneg (by omega)]; omega
      have q2 : ((k : Int)).tmod 4 = ((k % 4 : Nat) : Int) := by rw [Int.tmod_eq_emod_of_nonneg (by omega)]; omega
      have q3 : (k : Int) / 4 = ((k / 4 : Nat) : Int) := by omega
      have q4 : ((k / 4 : Nat) : Int) < 8 := by omega
      have q5 : (0 : Int) ≤ ((k / 4 : Nat) : Int) := by omega
      have HO := hide hO
      have HB := hide hB
      have hln : ((st.flatMap wordBytes).take k).length + 1 ≤ 1073741824 := by rw [List.length_take]; omega
      have Hln := hide hln
      generalize hqq : k / 4 = q at *
      have v0 := out24 x
      have v1 := out16 x
      have v2 := out8 x
      have v3 := (ib_toUInt8 x).symm
      have Hkk := hide hkk
      clear hO hB hkk hH2 hln HE
      have hr4 : k % 4 = 0 ∨ k % 4 = 1 ∨ k % 4 = 2 ∨ k % 4 = 3 := by omega
      rcases hr4 with hr | hr | hr | hr
      all_goals
        have Hr := hide hr
        have Hqq := hide hqq
        clear hr hqq
      · have q2' : ((k : Int)).tmod 4 = 0 := by rw [q2, unhide Hr]; rfl
        clear q2
        have HK : Hid ((st.flatMap wordBytes).take (k + 1) = (st.flatMap wordBytes).take k ++ [(x >>> (24 : UInt32)).toUInt8]) := by
          show (st.flatMap wordBytes).take (k + 1) = _
          rw [unhide Hkk, unhide Hr]; rfl
        clear Hkk
        generalize (x >>> (24 : UInt32)).toUInt8 = B at *
        go_wp2_with (at_builtin; refine wpList_append_bytes rfl _ _ rfl w.heap.size _ _ ((st.flatMap wordBytes).take k) [B] rfl ((unhide HO).alloc _) rfl (bytes_new wr [B] 5 (by simp)) (by simp; omega) (unhide Hln) ?_; intro v' w' hO2 hg2)
        go_roundw
        case rel =>
          have hO3 : OwnB w' w.heap.size v' ((st.flatMap wordBytes).take (k + 1)) := by rw [unhide HK]; exact hO2
          have hB3 : Below w.heap.size w w' := Fresh.grown ((unhide HO).alloc _) hg2 ((unhide HB).alloc hS _) (by simp; omega)
          first
            | exact ⟨k + 1, by omega, by go_num, hO3, hB3⟩
            | ((repeat apply Exists.intro); exact ⟨⟨k + 1, by omega, by go_num, hO3, hB3⟩, rfl⟩)
        case measure => simp [intOf]; omega
      · have q2' : ((k : Int)).tmod 4 = 1 := by rw [q2, unhide Hr]; rfl
        clear q2
        have HK : Hid ((st.flatMap wordBytes).take (k + 1) = (st.flatMap wordBytes).take k ++ [(x >>> (16 : UInt32)).toUInt8]) := by
          show (st.flatMap wordBytes).take (k + 1) = _
          rw [unhide Hkk, unhide Hr]; rfl
        clear Hkk
        generalize (x >>> (16 : UInt32)).toUInt8 = B at *
        go_wp2_with (at_builtin; refine wpList_append_bytes rfl _ _ rfl w.heap.size _ _ ((st.flatMap wordBytes).take k) [B] rfl ((unhide HO).alloc _) rfl (bytes_new wr [B] 5 (by simp)) (by simp; omega) (unhide Hln) ?_; intro v' w' hO2 hg2)
        go_roundw
        case rel =>
          have hO3 : OwnB w' w.heap.size v' ((st.flatMap wordBytes).take (k + 1)) := by rw [unhide HK]; exact hO2
          have hB3 : Below w.heap.size w w' := Fresh.grown ((unhide HO).alloc _) hg2 ((unhide HB).alloc hS _) (by simp; omega)
          first
            | exact ⟨k + 1, by omega, by go_num, hO3, hB3⟩
            | ((repeat apply Exists.intro); exact ⟨⟨k + 1, by omega, by go_num, hO3, hB3⟩, rfl⟩)
        case measure => simp [intOf]; omega
      · have q2' : ((k : Int)).tmod 4 = 2 := by rw [q2, unhide Hr]; rfl
        clear q2
        have HK : Hid ((st.flatMap wordBytes).take (k + 1) = (st.flatMap wordBytes).take k ++ [(x >>> (8 : UInt32)).toUInt8]) := by
          show (st.flatMap wordBytes).take (k + 1) = _
          rw [unhide Hkk, unhide Hr]; rfl
        clear Hkk
        generalize (x >>> (8 : UInt32)).toUInt8 = B at *
        go_wp2_with (at_builtin; refine wpList_append_bytes rfl _ _ rfl w.heap.size _ _ ((st.flatMap wordBytes).take k) [B] rfl ((unhide HO).alloc _) rfl (bytes_new wr [B] 5 (by simp)) (by simp; omega) (unhide Hln) ?_; intro v' w' hO2 hg2)
        go_roundw
        case rel =>
          have hO3 : OwnB w' w.heap.size v' ((st.flatMap wordBytes).take (k + 1)) := by rw [unhide HK]; exact hO2
          have hB3 : Below w.heap.size w w' := Fresh.grown ((unhide HO).alloc _) hg2 ((unhide HB).alloc hS _) (by simp; omega)
          first
            | exact ⟨k + 1, by omega, by go_num, hO3, hB3⟩
            | ((repeat apply Exists.intro); exact ⟨⟨k + 1, by omega, by go_num, hO3, hB3⟩, rfl⟩)
        case measure => simp [intOf]; omega
      · have q2' : ((k : Int)).tmod 4 = 3 := by rw [q2, unhide Hr]; rfl
        clear q2
        have HK : Hid ((st.flatMap wordBytes).take (k + 1) = (st.flatMap wordBytes).take k ++ [x.toUInt8]) := by
          show (st.flatMap wordBytes).take (k + 1) = _
          rw [unhide Hkk, unhide Hr]; rfl
        clear Hkk
        generalize x.toUInt8 = B at *
        go_wp2_with (at_builtin; refine wpList_append_bytes rfl _ _ rfl w.heap.size _ _ ((st.flatMap wordBytes).take k) [B] rfl ((unhide HO).alloc _) rfl (bytes_new wr [B] 5 (by simp)) (by simp; omega) (unhide Hln) ?_; intro v' w' hO2 hg2)
        go_roundw
        case rel =>
          have hO3 : OwnB w' w.heap.size v' ((st.flatMap wordBytes).take (k + 1)) := by rw [unhide HK]; exact hO2
          have hB3 : Below w.heap.size w w' := Fresh.grown ((unhide HO).alloc _) hg2 ((unhide HB).alloc hS _) (by simp; omega)
          first
            | exact ⟨k + 1, by omega, by go_num, hO3, hB3⟩
            | ((repeat apply Exists.intro); exact ⟨⟨k + 1, by omega, by go_num, hO3, hB3⟩, rfl⟩)
        case measure => simp [intOf]; omega
    · obtain rfl : k = 32 := by omega
      have hlen : (st.flatMap wordBytes).length = 32 := by
        have := length_outTo st 8 (by omega)
        unfold outTo at this
        rwa [List.take_of_length_le (by omega)] at this
      rw [List.take_of_length_le (by omega)] at hO
      have HO := hide hO
      have HB := hide hB
      clear hO hB hH2 hlt hk
      go_wp2
      exact unhide HE _ _ _ _ _ _ _ _ _ _ _ _ _ _ _ _ _ _ _ _ (unhide HO) (unhide HB)
end Go.Proofs.YtlhjifdahagkaaaDoor.Sha
/-
  The loop of the reference that moves the eight words by one place, walked by itself.
-/
namespace Go.Proofs.YtlhjifdahagkaaaDoor.Sha
open Go.RowKit
/-- The eight words while they are moved: those behind place i have been. -/
def shTo (L : List UInt32) (i : Nat) : List UInt32 := L.take (i + 1) ++ (L.drop i).take (7 - i)
theorem shTo_seven (L : List UInt32) (h : L.length = 8) : shTo L 7 = L := by
  unfold shTo
  rw [Nat.sub_self, List.take_zero, List.append_nil, List.take_of_length_le (by omega)]
theorem shTo_cut (L : List UInt32) (h : L.length = 8) (i : Nat) (hi : i < 8) : shTo L i = L.take i ++ (L.getD i 0 :: (L.drop i).take (7 - i)) := by
  unfold shTo
  rw [List.take_succ_eq_append_getElem (by omega), List.append_assoc]
  simp [List.getD_eq_getElem?_getD, h, hi]
theorem shTo_get (L : List UInt32) (h : L.length = 8) (i : Nat) (h0 : 0 < i) (hi : i < 8) : (((shTo L i).map wv).toArray)[i - 1]? = some (.int .u32 (iv (L.getD (i - 1) 0))) := by
  rw [List.getElem?_toArray, List.getElem?_map, shTo, List.getElem?_append_left (by rw [List.length_take]; omega), List.getElem?_take, if_pos (by omega)]
  simp [List.getD_eq_getElem?_getD, wv, show i - 1 < L.length from by omega]
theorem shTo_set (L : List UInt32) (h : L.length = 8) (i : Nat) (h0 : 0 < i) (hi : i < 8) : ((shTo L i).map wv).toArray.setIfInBounds i (.int .u32 (iv (L.getD (i - 1) 0))) = ((shTo L (i - 1)).map wv).toArray := by
  rw [List.setIfInBounds_toArray]
  congr 1
  have e : Value.int .u32 (iv (L.getD (i - 1) 0)) = wv (L.getD (i - 1) 0) := rfl
  rw [e, ← List.map_set]
  congr 1
  rw [shTo_cut L h i hi, List.set_append_right _ _ (by rw [List.length_take]; omega)]
  have hz : i - (L.take i).length = 0 := by rw [List.length_take]; omega
  rw [hz, List.set_cons_zero]
  unfold shTo
  rw [show i - 1 + 1 = i from by omega]
  congr 1
  have hd : L.drop (i - 1) = L.getD (i - 1) 0 :: L.drop i := by
    have h1 : i - 1 < L.length := by omega
    rw [List.drop_eq_getElem_cons h1, show i - 1 + 1 = i from by omega]
    simp [List.getD_eq_getElem?_getD, h1]
  rw [hd, show 7 - (i - 1) = (7 - i) + 1 from by omega, List.take_succ_cons]
theorem shTo_at (L : List UInt32) (h : L.length = 8) (i : Nat) (hi : i < 8) : ∃ v, (((shTo L i).map wv).toArray)[i]? = some v := by
  have hl : (shTo L i).length = 8 := by unfold shTo; rw [List.length_append, List.length_take, List.length_take, List.length_drop]; omega
  exact ⟨_, by rw [List.getElem?_toArray, List.getElem?_eq_getElem (by rw [List.length_map]; omega)]⟩
set_option maxRecDepth 1000000 in
set_option maxHeartbeats 2000000 in
theorem ref_shift (L : List UInt32) (hL : L.length = 8) (Vb : Nat) (w : World) (hV : w.heap[Vb]? = some (.cells (L.map wv).toArray 117 (0, 0))) (Q0 : Exit → Act → World → Prop)
    (c0 c1 c2 c3 c4 c5 c6 c7 c8 c9 c10 c11 c12 c13 c15 c16 c17 c19 c20 c21 c22 c23 c24 c25 c26 c27 c28 c29 c30 c31 c32 c33 c34 c35 c36 c37 c38 c39 c40 c41 c42 c43 c44 c45 c46 c47 c48 c49 c50 c51 c52 c53 c54 c55 c56 c57 c58 c59 c60 c61 c62 c63 c64 c65 c66 c67 c68 c69 c70 c71 c72 c73 c74 c75 c76 c77 c78 c79 c80 c81 c82 c83 c84 c85 c86 c87 c88 c89 c90 c91 c92 c93 c94 c95 c96 c97 c98 c99 c100 c101 c102 c103 c104 c105 c106 c107 c108 c109 c110 c111 c112 c113 c114 c115 c116 c117 c118 c119 c120 c121 c122 c123 c124 c125 c126 c127 c128 c129 c130 c131 c132 c133 c134 c135 c136 c137 c138 c139 c140 c141 c142 c143 c144 c145 c146 c147 c148 c149 c150 c151 c152 c153 c154 c155 c156 c157 c158 c159 c160 c161 c162 c163 c164 c165 c166 c167 c168 c169 c170 c171 c172 c173 c174 c175 c176 c177 c178 c179 c180 c181 c182 c183 c184 c185 c186 c187 c188 c189 c190 c191 c192 c193 c194 c195 c196 c197 c198 c199 c200 c201 c202 c203 c204 c215 c216 c217 c218 c219 c220 c221 c222 c223 c224 c225 c226 c227 c228 c229 c230 c231 c232 c233 c234 c235 c236 c237 c238 c239 c240 c241 c242 c243 c244 c245 c246 c247 c248 c249 c250 c251 c252 c253 u205 u206 u207 u208 u209 u210 u211 u212 u213 u214 : Value)
    (hexit : ∀ (u18 u205 u206 u207 u208 u209 u210 u211 u212 u213 u214 : Value) (w' : World), w'.heap[Vb]? = some (.cells ((shTo L 0).map wv).toArray 117 (0, 0)) → w.grownBy w' (some Vb) → Q0 (.exit 10) ⟨(c0 :: c1 :: c2 :: c3 :: c4 :: c5 :: c6 :: c7 :: c8 :: c9 :: c10 :: c11 :: c12 :: c13 :: .pointer (some ⟨Vb, 0, none⟩) :: c15 :: c16 :: c17 :: u18 :: c19 :: c20 :: c21 :: c22 :: c23 :: c24 :: c25 :: c26 :: c27 :: c28 :: c29 :: c30 :: c31 :: c32 :: c33 :: c34 :: c35 :: c36 :: c37 :: c38 :: c39 :: c40 :: c41 :: c42 :: c43 :: c44 :: c45 :: c46 :: c47 :: c48 :: c49 :: c50 :: c51 :: c52 :: c53 :: c54 :: c55 :: c56 :: c57 :: c58 :: c59 :: c60 :: c61 :: c62 :: c63 :: c64 :: c65 :: c66 :: c67 :: c68 :: c69 :: c70 :: c71 :: c72 :: c73 :: c74 :: c75 :: c76 :: c77 :: c78 :: c79 :: c80 :: c81 :: c82 :: c83 :: c84 :: c85 :: c86 :: c87 :: c88 :: c89 :: c90 :: c91 :: c92 :: c93 :: c94 :: c95 :: c96 :: c97 :: c98 :: c99 :: c100 :: c101 :: c102 :: c103 :: c104 :: c105 :: c106 :: c107 :: c108 :: c109 :: c110 :: c111 :: c112 :: c113 :: c114 :: c115 :: c116 :: c117 :: c118 :: c119 :: c120 :: c121 :: c122 :: c123 :: c124 :: c125 :: c126 :: c127 :: c128 :: c129 :: c130 :: c131 :: c132 :: c133 :: c134 :: c135 :: c136 :: c137 :: c138 :: c139 :: c140 :: c141 :: c142 :: c143 :: c144 :: c145 :: c146 :: c147 :: c148 :: c149 :: c150 :: c151 :: c152 :: c153 :: c154 :: c155 :: c156 :: c157 :: c158 :: c159 :: c160 :: c161 :: c162 :: c163 :: c164 :: c165 :: c166 :: c167 :: c168 :: c169 :: c170 :: c171 :: c172 :: c173 :: c174 :: c175 :: c176 :: c177 :: c178 :: c179 :: c180 :: c181 :: c182 :: c183 :: c184 :: c185 :: c186 :: c187 :: c188 :: c189 :: c190 :: c191 :: c192 :: c193 :: c194 :: c195 :: c196 :: c197 :: c198 :: c199 :: c200 :: c201 :: c202 :: c203 :: c204 :: u205 :: u206 :: u207 :: u208 :: u209 :: u210 :: u211 :: u212 :: u213 :: u214 :: c215 :: c216 :: c217 :: c218 :: c219 :: c220 :: c221 :: c222 :: c223 :: c224 :: c225 :: c226 :: c227 :: c228 :: c229 :: c230 :: c231 :: c232 :: c233 :: c234 :: c235 :: c236 :: c237 :: c238 :: c239 :: c240 :: c241 :: c242 :: c243 :: c244 :: c245 :: c246 :: c247 :: c248 :: c249 :: c250 :: c251 :: c252 :: c253 :: []).toArray, []⟩ w') :
    Code.wp Tryd.prog (Code.loop ((loopsOf (Tryd.f59.body.getD .skip)).getD 5 .skip)) Q0 ⟨(c0 :: c1 :: c2 :: c3 :: c4 :: c5 :: c6 :: c7 :: c8 :: c9 :: c10 :: c11 :: c12 :: c13 :: .pointer (some ⟨Vb, 0, none⟩) :: c15 :: c16 :: c17 :: .int .i64 7 :: c19 :: c20 :: c21 :: c22 :: c23 :: c24 :: c25 :: c26 :: c27 :: c28 :: c29 :: c30 :: c31 :: c32 :: c33 :: c34 :: c35 :: c36 :: c37 :: c38 :: c39 :: c40 :: c41 :: c42 :: c43 :: c44 :: c45 :: c46 :: c47 :: c48 :: c49 :: c50 :: c51 :: c52 :: c53 :: c54 :: c55 :: c56 :: c57 :: c58 :: c59 :: c60 :: c61 :: c62 :: c63 :: c64 :: c65 :: c66 :: c67 :: c68 :: c69 :: c70 :: c71 :: c72 :: c73 :: c74 :: c75 :: c76 :: c77 :: c78 :: c79 :: c80 :: c81 :: c82 :: c83 :: c84 :: c85 :: c86 :: c87 :: c88 :: c89 :: c90 :: c91 :: c92 :: c93 :: c94 :: c95 :: c96 :: c97 :: c98 :: c99 :: c100 :: c101 :: c102 :: c103 :: c104 :: c105 :: c106 :: c107 :: c108 :: c109 :: c110 :: c111 :: c112 :: c113 :: c114 :: c115 :: c116 :: c117 :: c118 :: c119 :: c120 :: c121 :: c122 :: c123 :: c124 :: c125 :: c126 :: c127 :: c128 :: c129 :: c130 :: c131 :: c132 :: c133 :: c134 :: c135 :: c136 :: c137 :: c138 :: c139 :: c140 :: c141 :: c142 :: c143 :: c144 :: c145 :: c146 :: c147 :: c148 :: c149 :: c150 :: c151 :: c152 :: c153 :: c154 :: c155 :: c156 :: c157 :: c158 :: c159 :: c160 :: c161 :: c162 :: c163 :: c164 :: c165 :: c166 :: c167 :: c168 :: c169 :: c170 :: c171 :: c172 :: c173 :: c174 :: c175 :: c176 :: c177 :: c178 :: c179 :: c180 :: c181 :: c182 :: c183 :: c184 :: c185 :: c186 :: c187 :: c188 :: c189 :: c190 :: c191 :: c192 :: c193 :: c194 :: c195 :: c196 :: c197 :: c198 :: c199 :: c200 :: c201 :: c202 :: c203 :: c204 :: u205 :: u206 :: u207 :: u208 :: u209 :: u210 :: u211 :: u212 :: u213 :: u214 :: c215 :: c216 :: c217 :: c218 :: c219 :: c220 :: c221 :: c222 :: c223 :: c224 :: c225 :: c226 :: c227 :: c228 :: c229 :: c230 :: c231 :: c232 :: c233 :: c234 :: c235 :: c236 :: c237 :: c238 :: c239 :: c240 :: c241 :: c242 :: c243 :: c244 :: c245 :: c246 :: c247 :: c248 :: c249 :: c250 :: c251 :: c252 :: c253 :: []).toArray, []⟩ w := by
  have HV := hide hV
  have HE := hide hexit
  clear hV hexit
  conv => arg 2; arg 1; whnf
  go_loopw [18] (fun i wr => ∃ k : Nat, k < 8 ∧ i = .int .i64 k ∧ wr.heap[Vb]? = some (.cells ((shTo L k).map wv).toArray 117 (0, 0)) ∧ w.grownBy wr (some Vb)) (fun i _ => (intOf i).toNat)
  case atStart => exact ⟨7, by omega, rfl, by rw [shTo_seven L hL]; exact unhide HV, World.grownBy.refl _ _⟩
  case round =>
    obtain ⟨k, hk, rfl, hA, hG⟩ := hrel
    by_cases hlt : 0 < k
    · have c1 : wr.cell? ⟨Vb, k - 1, none⟩ = some (.int .u32 (iv (L.getD (k - 1) 0))) := by rw [cell_of_row _ _ _ _ 117 (0, 0) hA]; exact shTo_get L hL k hlt hk
      obtain ⟨old, hold⟩ := shTo_at L hL k hk
      have c2 : wr.cell? ⟨Vb, k, none⟩ = some old := by rw [cell_of_row _ _ _ _ 117 (0, 0) hA]; exact hold
      have f2 : wr.frozen? ⟨Vb, k, none⟩ = false := frozen_of_row _ _ k _ 117 hA
      have hS : (wr.setCell ⟨Vb, k, none⟩ (.int .u32 (iv (L.getD (k - 1) 0)))).heap[Vb]? = _ := heap_setCell_same _ _ _ _ _ _ hA
      rw [shTo_set L hL k hlt hk] at hS
      have hG2 := grown_setCell hG ⟨Vb, k, none⟩ (.int .u32 (iv (L.getD (k - 1) 0))) rfl
      generalize L.getD (k - 1) 0 = q at *
      have HS := hide hS
      have HG2 := hide hG2
      have k1 : (k : Int) < 8 := by omega
      have k0 : (0 : Int) < (k : Int) := by omega
      have k2 : (1 : Int) ≤ (k : Int) := by omega
      have k3 : (0 : Int) ≤ (k : Int) - 1 := by omega
      have k4 : (k : Int) - 1 < 8 := by omega
      have t1 : ((k : Int) - 1).toNat = k - 1 := by omega
      have w1 : IntKind.i64.wrap ((k : Int) - 1) = (k : Int) - 1 := IntWalk.i64_in _ (by omega)
      clear hA hG hS hG2 HE HV hold
      go_wp2
      go_roundw
      case rel =>
        have hi : Value.int .i64 ((k : Int) - 1) = .int .i64 ((k - 1 : Nat) : Int) := congrArg _ (by omega)
        first
          | exact ⟨k - 1, by omega, hi, unhide HS, unhide HG2⟩
          | ((repeat apply Exists.intro); exact ⟨⟨k - 1, by omega, hi, unhide HS, unhide HG2⟩, rfl⟩)
      case measure => simp [intOf]; omega
    · obtain rfl : k = 0 := by omega
      have HA := hide hA
      have HG := hide hG
      clear hA hG hlt hk
      go_wp2
      exact unhide HE _ _ _ _ _ _ _ _ _ _ _ _ (unhide HA) (unhide HG)
end Go.Proofs.YtlhjifdahagkaaaDoor.Sha
