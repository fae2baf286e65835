/-
  The loop of the reference that lays the words of a block, walked by itself.
-/
import Derived.Test.YtmhlafhbdpeglaaDoorQ9
namespace Go.Proofs.YtmhlafhbdpeglaaDoor.Sha
open Go.RowKit
set_option maxRecDepth 1000000 in
set_option maxHeartbeats 4000000 in
theorem ref_sched (M : List UInt8) (j : Nat) (hj : 64 * j + 64 ≤ M.length) (hM : M.length ≤ 1048800) (mb mo cm Wb : Nat) (hne : mb ≠ Wb) (_hcm : M.length ≤ cm) (w : World) (hm : w.rangeAt mb mo (M.map bv)) (hW : w.heap[Wb]? = some (.cells (List.replicate 64 (Value.int .u32 0)).toArray 70 (0, 0))) (Q0 : Exit → Act → World → Prop)
    (c0 c1 c2 c4 c5 c6 c7 c14 c15 c16 c17 c18 c19 c20 c21 c22 c23 c24 c25 c26 c27 c28 c29 c30 c31 c32 c33 c34 c35 c36 c37 c38 c39 c40 c41 c42 c43 c44 c45 c46 c47 c48 c49 c50 c51 c52 c53 c54 c55 c56 c57 c136 c137 c138 c139 c140 c141 c142 c143 c144 c145 c146 c147 c148 c149 c150 c151 c152 c153 c154 c155 c156 c157 c158 c159 c160 c161 c162 c163 c164 c165 c166 c167 c168 c169 c170 c171 c172 c173 c174 c175 c176 c177 c178 c179 c180 c181 c182 c183 c184 c185 c186 c187 c188 c189 c190 c191 c192 c193 c194 c195 c196 c197 c198 c199 c200 c201 c202 c203 c204 c205 c206 c207 c208 c209 c210 c211 c212 c213 c214 c215 c216 c217 c218 c219 c220 c221 c222 c223 c224 c225 c226 c227 c228 c229 c230 c231 c232 c233 c234 c235 c236 c237 c238 c239 c240 c241 c242 c243 c244 c245 c246 c247 c248 c249 c250 c251 c252 c253 u11 u12 u13 u58 u59 u60 u61 u62 u63 u64 u65 u66 u67 u68 u69 u70 u71 u72 u73 u74 u75 u76 u77 u78 u79 u80 u81 u82 u83 u84 u85 u86 u87 u88 u89 u90 u91 u92 u93 u94 u95 u96 u97 u98 u99 u100 u101 u102 u103 u104 u105 u106 u107 u108 u109 u110 u111 u112 u113 u114 u115 u116 u117 u118 u119 u120 u121 u122 u123 u124 u125 u126 u127 u128 u129 u130 u131 u132 u133 u134 u135 : Value)
    (hexit : ∀ (u10 u11 u12 u13 u58 u59 u60 u61 u62 u63 u64 u65 u66 u67 u68 u69 u70 u71 u72 u73 u74 u75 u76 u77 u78 u79 u80 u81 u82 u83 u84 u85 u86 u87 u88 u89 u90 u91 u92 u93 u94 u95 u96 u97 u98 u99 u100 u101 u102 u103 u104 u105 u106 u107 u108 u109 u110 u111 u112 u113 u114 u115 u116 u117 u118 u119 u120 u121 u122 u123 u124 u125 u126 u127 u128 u129 u130 u131 u132 u133 u134 u135 : Value) (w' : World), w'.heap[Wb]? = some (.cells ((wordsTo ((M.drop (64 * j)).take 64) 64).map wv).toArray 70 (0, 0)) → w.grownBy w' (some Wb) → Q0 (.exit 6) ⟨(c0 :: c1 :: c2 :: .slice (some ⟨mb, mo, none⟩) M.length cm :: c4 :: c5 :: c6 :: c7 :: .int .i64 (64 * (j : Int)) :: .pointer (some ⟨Wb, 0, none⟩) :: u10 :: u11 :: u12 :: u13 :: c14 :: c15 :: c16 :: c17 :: c18 :: c19 :: c20 :: c21 :: c22 :: c23 :: c24 :: c25 :: c26 :: c27 :: c28 :: c29 :: c30 :: c31 :: c32 :: c33 :: c34 :: c35 :: c36 :: c37 :: c38 :: c39 :: c40 :: c41 :: c42 :: c43 :: c44 :: c45 :: c46 :: c47 :: c48 :: c49 :: c50 :: c51 :: c52 :: c53 :: c54 :: c55 :: c56 :: c57 :: u58 :: u59 :: u60 :: u61 :: u62 :: u63 :: u64 :: u65 :: u66 :: u67 :: u68 :: u69 :: u70 :: u71 :: u72 :: u73 :: u74 :: u75 :: u76 :: u77 :: u78 :: u79 :: u80 :: u81 :: u82 :: u83 :: u84 :: u85 :: u86 :: u87 :: u88 :: u89 :: u90 :: u91 :: u92 :: u93 :: u94 :: u95 :: u96 :: u97 :: u98 :: u99 :: u100 :: u101 :: u102 :: u103 :: u104 :: u105 :: u106 :: u107 :: u108 :: u109 :: u110 :: u111 :: u112 :: u113 :: u114 :: u115 :: u116 :: u117 :: u118 :: u119 :: u120 :: u121 :: u122 :: u123 :: u124 :: u125 :: u126 :: u127 :: u128 :: u129 :: u130 :: u131 :: u132 :: u133 :: u134 :: u135 :: c136 :: c137 :: c138 :: c139 :: c140 :: c141 :: c142 :: c143 :: c144 :: c145 :: c146 :: c147 :: c148 :: c149 :: c150 :: c151 :: c152 :: c153 :: c154 :: c155 :: c156 :: c157 :: c158 :: c159 :: c160 :: c161 :: c162 :: c163 :: c164 :: c165 :: c166 :: c167 :: c168 :: c169 :: c170 :: c171 :: c172 :: c173 :: c174 :: c175 :: c176 :: c177 :: c178 :: c179 :: c180 :: c181 :: c182 :: c183 :: c184 :: c185 :: c186 :: c187 :: c188 :: c189 :: c190 :: c191 :: c192 :: c193 :: c194 :: c195 :: c196 :: c197 :: c198 :: c199 :: c200 :: c201 :: c202 :: c203 :: c204 :: c205 :: c206 :: c207 :: c208 :: c209 :: c210 :: c211 :: c212 :: c213 :: c214 :: c215 :: c216 :: c217 :: c218 :: c219 :: c220 :: c221 :: c222 :: c223 :: c224 :: c225 :: c226 :: c227 :: c228 :: c229 :: c230 :: c231 :: c232 :: c233 :: c234 :: c235 :: c236 :: c237 :: c238 :: c239 :: c240 :: c241 :: c242 :: c243 :: c244 :: c245 :: c246 :: c247 :: c248 :: c249 :: c250 :: c251 :: c252 :: c253 :: []).toArray, []⟩ w') :
    Code.wp Tryd.prog (Code.loop ((loopsOf (Tryd.f31.body.getD .skip)).getD 3 .skip)) Q0 ⟨(c0 :: c1 :: c2 :: .slice (some ⟨mb, mo, none⟩) M.length cm :: c4 :: c5 :: c6 :: c7 :: .int .i64 (64 * (j : Int)) :: .pointer (some ⟨Wb, 0, none⟩) :: .int .i64 0 :: u11 :: u12 :: u13 :: c14 :: c15 :: c16 :: c17 :: c18 :: c19 :: c20 :: c21 :: c22 :: c23 :: c24 :: c25 :: c26 :: c27 :: c28 :: c29 :: c30 :: c31 :: c32 :: c33 :: c34 :: c35 :: c36 :: c37 :: c38 :: c39 :: c40 :: c41 :: c42 :: c43 :: c44 :: c45 :: c46 :: c47 :: c48 :: c49 :: c50 :: c51 :: c52 :: c53 :: c54 :: c55 :: c56 :: c57 :: u58 :: u59 :: u60 :: u61 :: u62 :: u63 :: u64 :: u65 :: u66 :: u67 :: u68 :: u69 :: u70 :: u71 :: u72 :: u73 :: u74 :: u75 :: u76 :: u77 :: u78 :: u79 :: u80 :: u81 :: u82 :: u83 :: u84 :: u85 :: u86 :: u87 :: u88 :: u89 :: u90 :: u91 :: u92 :: u93 :: u94 :: u95 :: u96 :: u97 :: u98 :: u99 :: u100 :: u101 :: u102 :: u103 :: u104 :: u105 :: u106 :: u107 :: u108 :: u109 :: u110 :: u111 :: u112 :: u113 :: u114 :: u115 :: u116 :: u117 :: u118 :: u119 :: u120 :: u121 :: u122 :: u123 :: u124 :: u125 :: u126 :: u127 :: u128 :: u129 :: u130 :: u131 :: u132 :: u133 :: u134 :: u135 :: c136 :: c137 :: c138 :: c139 :: c140 :: c141 :: c142 :: c143 :: c144 :: c145 :: c146 :: c147 :: c148 :: c149 :: c150 :: c151 :: c152 :: c153 :: c154 :: c155 :: c156 :: c157 :: c158 :: c159 :: c160 :: c161 :: c162 :: c163 :: c164 :: c165 :: c166 :: c167 :: c168 :: c169 :: c170 :: c171 :: c172 :: c173 :: c174 :: c175 :: c176 :: c177 :: c178 :: c179 :: c180 :: c181 :: c182 :: c183 :: c184 :: c185 :: c186 :: c187 :: c188 :: c189 :: c190 :: c191 :: c192 :: c193 :: c194 :: c195 :: c196 :: c197 :: c198 :: c199 :: c200 :: c201 :: c202 :: c203 :: c204 :: c205 :: c206 :: c207 :: c208 :: c209 :: c210 :: c211 :: c212 :: c213 :: c214 :: c215 :: c216 :: c217 :: c218 :: c219 :: c220 :: c221 :: c222 :: c223 :: c224 :: c225 :: c226 :: c227 :: c228 :: c229 :: c230 :: c231 :: c232 :: c233 :: c234 :: c235 :: c236 :: c237 :: c238 :: c239 :: c240 :: c241 :: c242 :: c243 :: c244 :: c245 :: c246 :: c247 :: c248 :: c249 :: c250 :: c251 :: c252 :: c253 :: []).toArray, []⟩ w := by
  have HW := hide hW
  have Hm := hide hm
  have HE := hide hexit
  clear hW hm hexit
  generalize hl : (M.drop (64 * j)).take 64 = l at HE
  have hll : l.length = 64 := by rw [← hl, List.length_take, List.length_drop]; omega
  have hget : ∀ i, i < 64 → l.getD i 0 = M.getD (64 * j + i) 0 := fun i hi => by
    rw [← hl, List.getD_eq_getElem?_getD, List.getD_eq_getElem?_getD, List.getElem?_take, if_pos hi, List.getElem?_drop]
  have Hget := hide hget
  clear hget hl
  conv => arg 2; arg 1; whnf
  go_loopw [10] (fun i wr => ∃ k : Nat, k ≤ 64 ∧ i = .int .i64 k ∧ wr.heap[Wb]? = some (.cells (content l k) 70 (0, 0)) ∧ w.grownBy wr (some Wb)) (fun i _ => 64 - (intOf i).toNat)
  case atStart => exact ⟨0, by omega, rfl, unhide HW, World.grownBy.refl _ _⟩
  case round =>
    obtain ⟨k, hk, rfl, hA, hG⟩ := hrel
    by_cases hlt : k < 64
    · have cw : wr.cell? ⟨Wb, k, none⟩ = some (.int .u32 0) := by rw [cell_of_row _ _ _ _ 70 (0, 0) hA]; exact content_at l k hlt
      have fw : wr.frozen? ⟨Wb, k, none⟩ = false := frozen_of_row _ _ k _ 70 hA
      have hS : (wr.setCell ⟨Wb, k, none⟩ (.int .u32 (iv (nextW l (wordsTo l k))))).heap[Wb]? = _ := heap_setCell_same _ _ _ _ _ _ hA
      rw [content_set l k hlt] at hS
      have hG2 := grown_setCell hG ⟨Wb, k, none⟩ (.int .u32 (iv (nextW l (wordsTo l k)))) rfl
      have HS := hide hS
      have HG2 := hide hG2
      have k64 : (k : Int) < 64 := by omega
      have k00 : (0 : Int) ≤ (k : Int) := by omega
      clear hS hG2 HE HW
      by_cases h16 : k < 16
      · have hB : ∀ i, i < 64 → wr.cell? ⟨mb, mo + (64 * j + i), none⟩ = some (.int .u8 (ib (l.getD i 0))) := fun i hi => by
          rw [unhide Hget i hi]
          have hlM : 64 * j + i < M.length := by omega
          refine hG.cell (unhide Hm (64 * j + i) _ ?_) (by simpa using hne)
          simp [bv, List.getD_eq_getElem?_getD, hlM]
        have c0 := hB (4 * k) (by omega)
        have c1 := hB (4 * k + 1) (by omega)
        have c2 := hB (4 * k + 2) (by omega)
        have c3 := hB (4 * k + 3) (by omega)
        clear hB hA hG Hm Hget
        have HB : Hid (nextW l (wordsTo l k) = (l.getD (4 * k) 0).toUInt32 <<< 24 ||| (l.getD (4 * k + 1) 0).toUInt32 <<< 16 ||| (l.getD (4 * k + 2) 0).toUInt32 <<< 8 ||| (l.getD (4 * k + 3) 0).toUInt32) := by
          show nextW l (wordsTo l k) = _
          rw [nextW_low l k h16]; rfl
        generalize l.getD (4 * k) 0 = b0 at c0 HB
        generalize l.getD (4 * k + 1) 0 = b1 at c1 HB
        generalize l.getD (4 * k + 2) 0 = b2 at c2 HB
        generalize l.getD (4 * k + 3) 0 = b3 at c3 HB
        rw [unhide HB, ← store_word b0 b1 b2 b3] at HS HG2
        have k16 : (k : Int) < 16 := by omega
        generalize hP : 64 * j + 4 * k = P at *
        have cc0 : wr.cell? ⟨mb, mo + P, none⟩ = some (.int .u8 (ib b0)) := by first | exact c0 | (rw [← hP]; exact c0)
        have cc1 : wr.cell? ⟨mb, mo + (P + 1), none⟩ = some (.int .u8 (ib b1)) := by rw [← hP]; exact c1
        have cc2 : wr.cell? ⟨mb, mo + (P + 2), none⟩ = some (.int .u8 (ib b2)) := by rw [← hP]; exact c2
        have cc3 : wr.cell? ⟨mb, mo + (P + 3), none⟩ = some (.int .u8 (ib b3)) := by rw [← hP]; exact c3
        have hb : 64 * (j : Int) + 4 * (k : Int) = (P : Int) := by omega
        have hw0 : IntKind.i64.wrap (4 * (k : Int)) = 4 * (k : Int) := IntWalk.i64_in _ (by omega)
        have hw1 : IntKind.i64.wrap (P : Int) = (P : Int) := IntWalk.i64_in _ (by omega)
        have e0 : (0 : Int) ≤ (P : Int) := by omega
        have e1 : (P : Int) < (M.length : Int) := by omega
        have e2 : (P : Int) + 1 < (M.length : Int) := by omega
        have e3 : (P : Int) + 2 < (M.length : Int) := by omega
        have e4 : (P : Int) + 3 < (M.length : Int) := by omega
        have e5 : (0 : Int) ≤ (P : Int) + 1 := by omega
        have e6 : (0 : Int) ≤ (P : Int) + 2 := by omega
        have e7 : (0 : Int) ≤ (P : Int) + 3 := by omega
        have t1 : ((P : Int) + 1).toNat = P + 1 := by omega
        have t2 : ((P : Int) + 2).toNat = P + 2 := by omega
        have t3 : ((P : Int) + 3).toNat = P + 3 := by omega
        have bM : (M.length : Int) ≤ 1048800 := by omega
        have pM : (P : Int) ≤ 1048800 := by omega
        have y1 : IntKind.i64.wrap ((P : Int) + 1) = (P : Int) + 1 := IntWalk.i64_in _ (by omega)
        have y2 : IntKind.i64.wrap ((P : Int) + 2) = (P : Int) + 2 := IntWalk.i64_in _ (by omega)
        have y3 : IntKind.i64.wrap ((P : Int) + 3) = (P : Int) + 3 := IntWalk.i64_in _ (by omega)
        have HP := hide hP
        have hne2 := Ne.symm hne
        clear hP c0 c1 c2 c3 HB
        go_wp2
        go_region_held3 (fun w' => w'.cell? ⟨mb, mo + P, none⟩ = some (.int .u8 (ib b0)) ∧ w'.cell? ⟨mb, mo + (P + 1), none⟩ = some (.int .u8 (ib b1)) ∧ w'.cell? ⟨mb, mo + (P + 2), none⟩ = some (.int .u8 (ib b2)) ∧ w'.cell? ⟨mb, mo + (P + 3), none⟩ = some (.int .u8 (ib b3))) (first | (refine ⟨?_, ?_, ?_, ?_⟩ <;> first | assumption | (refine keep_set ?_ ?_ <;> assumption)) | go_keep) (fail)
        go_wp2
        go_roundw
        case rel =>
          first
            | exact ⟨k + 1, by omega, by go_num, unhide HS, (unhide HG2).drew⟩
            | ((repeat apply Exists.intro); exact ⟨⟨k + 1, by omega, by go_num, unhide HS, (unhide HG2).drew⟩, rfl⟩)
        case measure => simp [intOf]; omega
      · have hWc : ∀ i, i < k → wr.cell? ⟨Wb, i, none⟩ = some (.int .u32 (iv ((wordsTo l k).getD i 0))) := fun i hi => by
          rw [cell_of_row _ _ i _ 70 (0, 0) hA]; exact content_get l k i hi
        have HN : Hid _ := nextW_high l k h16
        have a15 := hWc (k - 15) (by omega)
        have a2 := hWc (k - 2) (by omega)
        have a7 := hWc (k - 7) (by omega)
        have a16 := hWc (k - 16) (by omega)
        clear hWc hA hG Hm Hget
        generalize (wordsTo l k).getD (k - 15) 0 = x15 at a15 HN
        generalize (wordsTo l k).getD (k - 2) 0 = x2 at a2 HN
        generalize (wordsTo l k).getD (k - 7) 0 = x7 at a7 HN
        generalize (wordsTo l k).getD (k - 16) 0 = x16 at a16 HN
        rw [unhide HN, ← next_word x2 x7 x15 x16] at HS HG2
        have k16 : ¬ (k : Int) < 16 := by omega
        have p1 : (0 : Int) ≤ (k : Int) - 15 := by omega
        have p2 : (0 : Int) ≤ (k : Int) - 2 := by omega
        have p3 : (0 : Int) ≤ (k : Int) - 7 := by omega
        have p4 : (0 : Int) ≤ (k : Int) - 16 := by omega
        have q1 : (k : Int) - 15 < 64 := by omega
        have q2 : (k : Int) - 2 < 64 := by omega
        have q3 : (k : Int) - 7 < 64 := by omega
        have q4 : (k : Int) - 16 < 64 := by omega
        have r1 : (15 : Int) ≤ (k : Int) := by omega
        have t1 : ((k : Int) - 15).toNat = k - 15 := by omega
        have t2 : ((k : Int) - 2).toNat = k - 2 := by omega
        have t3 : ((k : Int) - 7).toNat = k - 7 := by omega
        have t4 : ((k : Int) - 16).toNat = k - 16 := by omega
        have r2 : (2 : Int) ≤ (k : Int) := by omega
        have r3 : (7 : Int) ≤ (k : Int) := by omega
        have r4 : (16 : Int) ≤ (k : Int) := by omega
        have w1 : IntKind.i64.wrap ((k : Int) - 15) = (k : Int) - 15 := IntWalk.i64_in _ (by omega)
        have w2 : IntKind.i64.wrap ((k : Int) - 2) = (k : Int) - 2 := IntWalk.i64_in _ (by omega)
        have w3 : IntKind.i64.wrap ((k : Int) - 7) = (k : Int) - 7 := IntWalk.i64_in _ (by omega)
        have w4 : IntKind.i64.wrap ((k : Int) - 16) = (k : Int) - 16 := IntWalk.i64_in _ (by omega)
        clear HN
        go_wp2
        go_region_held3 (fun w' => w'.cell? ⟨Wb, k - 7, none⟩ = some (.int .u32 (iv x7)) ∧ w'.cell? ⟨Wb, k - 16, none⟩ = some (.int .u32 (iv x16))) (first | (simp only [World.cell?_drew]; refine ⟨?_, ?_⟩ <;> first | assumption | (refine keep_ne ?_ ?_ <;> first | assumption | (refine ne_off ?_; dsimp only; omega))) | go_keep) ((go_at_call 54; refine (turn_any _ _ (by omega) (by omega) _).mono ?_; rintro e w' ⟨rfl, rfl⟩))
        go_wp2
        go_roundw
        case rel =>
          have hGd := (unhide HG2).drew.drew.drew.drew.drew
          first
            | exact ⟨k + 1, by omega, by go_num, unhide HS, hGd⟩
            | ((repeat apply Exists.intro); exact ⟨⟨k + 1, by omega, by go_num, unhide HS, hGd⟩, rfl⟩)
        case measure => simp [intOf]; omega
    · obtain rfl : k = 64 := by omega
      rw [content_full] at hA
      have HA := hide hA
      have HG := hide hG
      clear hA hG hlt hk
      go_wp2
      exact unhide HE _ _ _ _ _ _ _ _ _ _ _ _ _ _ _ _ _ _ _ _ _ _ _ _ _ _ _ _ _ _ _ _ _ _ _ _ _ _ _ _ _ _ _ _ _ _ _ _ _ _ _ _ _ _ _ _ _ _ _ _ _ _ _ _ _ _ _ _ _ _ _ _ _ _ _ _ _ _ _ _ _ _ _ (unhide HA) (unhide HG)
end Go.Proofs.YtmhlafhbdpeglaaDoor.Sha
