/-
  The loop of the reference over the blocks, walked by itself.
-/
import Derived.Test.YtodcpcdhkghgnaaDoorRefRounds
import Derived.Test.YtodcpcdhkghgnaaDoorRefSched
import Derived.Test.YtodcpcdhkghgnaaDoorRefAdd
namespace Go.Proofs.YtodcpcdhkghgnaaDoor
open Go.RowKit
theorem RefAt.grown {w : World} {Hb Kb : Nat} {vM : Value} {M : List UInt8} {st : List UInt32} {a b : World} {N : Nat} (i : RefAt w Hb Kb vM M st a) (hg : a.grownBy b (some N)) (hN : Kb < N) (hm : vM.ownBlock ≠ some N) : RefAt w Hb Kb vM M st b := by
  have hk := i.kb
  have hh := i.hb
  have hl := i.lt
  have hs := i.bel.size
  refine ⟨by rw [hg.block _ (by omega) (by intro e; cases e; omega)]; exact i.h, by rw [hg.block _ hl (by intro e; cases e; omega)]; exact i.k, i.m.grown hg hm, i.bel.grown hg hs (by intro k e; cases e; omega), hh, hk, i.ne⟩
theorem RefAt.grownH {w : World} {Hb Kb : Nat} {vM : Value} {M : List UInt8} {st st' : List UInt32} {a b : World} (i : RefAt w Hb Kb vM M st a) (hg : a.grownBy b (some Hb)) (h : b.heap[Hb]? = some (.cells (st'.map wv).toArray 39 (0, 0))) : RefAt w Hb Kb vM M st' b := by
  have hk := i.kb
  have hh := i.hb
  have hl := i.lt
  have hs := i.bel.size
  refine ⟨h, by rw [hg.block _ hl (by intro e; cases e; omega)]; exact i.k, i.m.grown hg i.ne, i.bel.grown hg hs (by intro k e; cases e; exact hh), hh, hk, i.ne⟩
theorem RefAt.alloc {w : World} {Hb Kb : Nat} {vM : Value} {M : List UInt8} {st : List UInt32} {a : World} (i : RefAt w Hb Kb vM M st a) (o : Obj) : RefAt w Hb Kb vM M st (a.alloc o) :=
  i.below ((Below.refl _ _).alloc (Nat.le_refl _) o)
theorem BytesAt.range {w : World} {b o n c : Nat} {l : List UInt8} (h : BytesAt w (.slice (some ⟨b, o, none⟩) n c) l) (hl : l ≠ []) : w.rangeAt b o (l.map bv) := by
  obtain ⟨sp, c', e, _, _, h3⟩ := h
  cases e
  obtain ⟨b', o', e2, h4⟩ := h3 hl
  cases e2
  exact h4
theorem list_ofList8 (l : List UInt32) (h : l.length = 8) : (ofList8 l).list = l := by
  match l, h with
  | [a, b, c, d, e, f, g, i], _ => rfl
set_option maxRecDepth 1000000 in
set_option maxHeartbeats 4000000 in
theorem ref_blocks (w0 : World) (Hb Kb mb mo cm : Nat) (M : List UInt8) (hM64 : M.length % 64 = 0) (hM : M.length ≤ 1048800) (hcm : M.length ≤ cm) (w : World) (hR : RefAt w0 Hb Kb (.slice (some ⟨mb, mo, none⟩) M.length cm) M hTab w) (Q0 : Exit → Act → World → Prop)
    (c0 c1 c2 c4 c5 u9 u10 u11 u12 u13 u14 u15 u16 u17 u18 u19 u20 u21 u22 u23 u24 u25 u26 u27 u28 u29 u30 u31 u32 u33 u34 u35 u36 u37 u38 u39 u40 u41 u42 u43 u44 u45 u46 u47 u48 u49 u50 u51 u52 u53 u54 u55 u56 u57 u58 u59 u60 u61 u62 u63 u64 u65 u66 u67 u68 u69 u70 u71 u72 u73 u74 u75 u76 u77 u78 u79 u80 u81 u82 u83 u84 u85 u86 u87 u88 u89 u90 u91 u92 u93 u94 u95 u96 u97 u98 u99 u100 u101 u102 u103 u104 u105 u106 u107 u108 u109 u110 u111 u112 u113 u114 u115 u116 u117 u118 u119 u120 u121 u122 u123 u124 u125 u126 u127 u128 u129 u130 u131 u132 u133 u134 u135 u136 u137 u138 u139 u140 u141 u142 u143 u144 u145 u146 u147 u148 u149 u150 u151 u152 u153 u154 u155 u156 u157 u158 u159 u160 u161 u162 u163 u164 u165 u166 u167 u168 u169 u170 u171 u172 u173 u174 u175 u176 u177 u178 u179 u180 u181 u182 u183 u184 u185 u186 u187 u188 u189 u190 u191 u192 u193 u194 u195 u196 u197 u198 u199 u200 u201 u202 u203 u204 u205 u206 u207 u208 u209 u210 u211 u212 u213 u214 u215 u216 u217 u218 u219 u220 u221 u222 u223 u224 u225 u226 u227 u228 u229 u230 u231 u232 u233 u234 u235 u236 u237 u238 u239 u240 u241 u242 u243 u244 u245 u246 u247 u248 u249 u250 u251 u252 u253 : Value)
    (hexit : ∀ (u8 u9 u10 u11 u12 u13 u14 u15 u16 u17 u18 u19 u20 u21 u22 u23 u24 u25 u26 u27 u28 u29 u30 u31 u32 u33 u34 u35 u36 u37 u38 u39 u40 u41 u42 u43 u44 u45 u46 u47 u48 u49 u50 u51 u52 u53 u54 u55 u56 u57 u58 u59 u60 u61 u62 u63 u64 u65 u66 u67 u68 u69 u70 u71 u72 u73 u74 u75 u76 u77 u78 u79 u80 u81 u82 u83 u84 u85 u86 u87 u88 u89 u90 u91 u92 u93 u94 u95 u96 u97 u98 u99 u100 u101 u102 u103 u104 u105 u106 u107 u108 u109 u110 u111 u112 u113 u114 u115 u116 u117 u118 u119 u120 u121 u122 u123 u124 u125 u126 u127 u128 u129 u130 u131 u132 u133 u134 u135 u136 u137 u138 u139 u140 u141 u142 u143 u144 u145 u146 u147 u148 u149 u150 u151 u152 u153 u154 u155 u156 u157 u158 u159 u160 u161 u162 u163 u164 u165 u166 u167 u168 u169 u170 u171 u172 u173 u174 u175 u176 u177 u178 u179 u180 u181 u182 u183 u184 u185 u186 u187 u188 u189 u190 u191 u192 u193 u194 u195 u196 u197 u198 u199 u200 u201 u202 u203 u204 u205 u206 u207 u208 u209 u210 u211 u212 u213 u214 u215 u216 u217 u218 u219 u220 u221 u222 u223 u224 u225 u226 u227 u228 u229 u230 u231 u232 u233 u234 u235 u236 u237 u238 u239 u240 u241 u242 u243 u244 u245 u246 u247 u248 u249 u250 u251 u252 u253 : Value) (w' : World), RefAt w0 Hb Kb (.slice (some ⟨mb, mo, none⟩) M.length cm) M (stTo M (M.length / 64)) w' → Q0 (.exit 4) ⟨(c0 :: c1 :: c2 :: .slice (some ⟨mb, mo, none⟩) M.length cm :: c4 :: c5 :: .pointer (some ⟨Hb, 0, none⟩) :: .pointer (some ⟨Kb, 0, none⟩) :: u8 :: u9 :: u10 :: u11 :: u12 :: u13 :: u14 :: u15 :: u16 :: u17 :: u18 :: u19 :: u20 :: u21 :: u22 :: u23 :: u24 :: u25 :: u26 :: u27 :: u28 :: u29 :: u30 :: u31 :: u32 :: u33 :: u34 :: u35 :: u36 :: u37 :: u38 :: u39 :: u40 :: u41 :: u42 :: u43 :: u44 :: u45 :: u46 :: u47 :: u48 :: u49 :: u50 :: u51 :: u52 :: u53 :: u54 :: u55 :: u56 :: u57 :: u58 :: u59 :: u60 :: u61 :: u62 :: u63 :: u64 :: u65 :: u66 :: u67 :: u68 :: u69 :: u70 :: u71 :: u72 :: u73 :: u74 :: u75 :: u76 :: u77 :: u78 :: u79 :: u80 :: u81 :: u82 :: u83 :: u84 :: u85 :: u86 :: u87 :: u88 :: u89 :: u90 :: u91 :: u92 :: u93 :: u94 :: u95 :: u96 :: u97 :: u98 :: u99 :: u100 :: u101 :: u102 :: u103 :: u104 :: u105 :: u106 :: u107 :: u108 :: u109 :: u110 :: u111 :: u112 :: u113 :: u114 :: u115 :: u116 :: u117 :: u118 :: u119 :: u120 :: u121 :: u122 :: u123 :: u124 :: u125 :: u126 :: u127 :: u128 :: u129 :: u130 :: u131 :: u132 :: u133 :: u134 :: u135 :: u136 :: u137 :: u138 :: u139 :: u140 :: u141 :: u142 :: u143 :: u144 :: u145 :: u146 :: u147 :: u148 :: u149 :: u150 :: u151 :: u152 :: u153 :: u154 :: u155 :: u156 :: u157 :: u158 :: u159 :: u160 :: u161 :: u162 :: u163 :: u164 :: u165 :: u166 :: u167 :: u168 :: u169 :: u170 :: u171 :: u172 :: u173 :: u174 :: u175 :: u176 :: u177 :: u178 :: u179 :: u180 :: u181 :: u182 :: u183 :: u184 :: u185 :: u186 :: u187 :: u188 :: u189 :: u190 :: u191 :: u192 :: u193 :: u194 :: u195 :: u196 :: u197 :: u198 :: u199 :: u200 :: u201 :: u202 :: u203 :: u204 :: u205 :: u206 :: u207 :: u208 :: u209 :: u210 :: u211 :: u212 :: u213 :: u214 :: u215 :: u216 :: u217 :: u218 :: u219 :: u220 :: u221 :: u222 :: u223 :: u224 :: u225 :: u226 :: u227 :: u228 :: u229 :: u230 :: u231 :: u232 :: u233 :: u234 :: u235 :: u236 :: u237 :: u238 :: u239 :: u240 :: u241 :: u242 :: u243 :: u244 :: u245 :: u246 :: u247 :: u248 :: u249 :: u250 :: u251 :: u252 :: u253 :: []).toArray, []⟩ w') :
    Code.wp Tryd.prog (Code.loop ((loopsOf (Tryd.f11.body.getD .skip)).getD 2 .skip)) Q0 ⟨(c0 :: c1 :: c2 :: .slice (some ⟨mb, mo, none⟩) M.length cm :: c4 :: c5 :: .pointer (some ⟨Hb, 0, none⟩) :: .pointer (some ⟨Kb, 0, none⟩) :: .int .i64 0 :: u9 :: u10 :: u11 :: u12 :: u13 :: u14 :: u15 :: u16 :: u17 :: u18 :: u19 :: u20 :: u21 :: u22 :: u23 :: u24 :: u25 :: u26 :: u27 :: u28 :: u29 :: u30 :: u31 :: u32 :: u33 :: u34 :: u35 :: u36 :: u37 :: u38 :: u39 :: u40 :: u41 :: u42 :: u43 :: u44 :: u45 :: u46 :: u47 :: u48 :: u49 :: u50 :: u51 :: u52 :: u53 :: u54 :: u55 :: u56 :: u57 :: u58 :: u59 :: u60 :: u61 :: u62 :: u63 :: u64 :: u65 :: u66 :: u67 :: u68 :: u69 :: u70 :: u71 :: u72 :: u73 :: u74 :: u75 :: u76 :: u77 :: u78 :: u79 :: u80 :: u81 :: u82 :: u83 :: u84 :: u85 :: u86 :: u87 :: u88 :: u89 :: u90 :: u91 :: u92 :: u93 :: u94 :: u95 :: u96 :: u97 :: u98 :: u99 :: u100 :: u101 :: u102 :: u103 :: u104 :: u105 :: u106 :: u107 :: u108 :: u109 :: u110 :: u111 :: u112 :: u113 :: u114 :: u115 :: u116 :: u117 :: u118 :: u119 :: u120 :: u121 :: u122 :: u123 :: u124 :: u125 :: u126 :: u127 :: u128 :: u129 :: u130 :: u131 :: u132 :: u133 :: u134 :: u135 :: u136 :: u137 :: u138 :: u139 :: u140 :: u141 :: u142 :: u143 :: u144 :: u145 :: u146 :: u147 :: u148 :: u149 :: u150 :: u151 :: u152 :: u153 :: u154 :: u155 :: u156 :: u157 :: u158 :: u159 :: u160 :: u161 :: u162 :: u163 :: u164 :: u165 :: u166 :: u167 :: u168 :: u169 :: u170 :: u171 :: u172 :: u173 :: u174 :: u175 :: u176 :: u177 :: u178 :: u179 :: u180 :: u181 :: u182 :: u183 :: u184 :: u185 :: u186 :: u187 :: u188 :: u189 :: u190 :: u191 :: u192 :: u193 :: u194 :: u195 :: u196 :: u197 :: u198 :: u199 :: u200 :: u201 :: u202 :: u203 :: u204 :: u205 :: u206 :: u207 :: u208 :: u209 :: u210 :: u211 :: u212 :: u213 :: u214 :: u215 :: u216 :: u217 :: u218 :: u219 :: u220 :: u221 :: u222 :: u223 :: u224 :: u225 :: u226 :: u227 :: u228 :: u229 :: u230 :: u231 :: u232 :: u233 :: u234 :: u235 :: u236 :: u237 :: u238 :: u239 :: u240 :: u241 :: u242 :: u243 :: u244 :: u245 :: u246 :: u247 :: u248 :: u249 :: u250 :: u251 :: u252 :: u253 :: []).toArray, []⟩ w := by
  have HR := hide hR
  have HE := hide hexit
  clear hR hexit
  conv => arg 2; arg 1; whnf
  go_loopw [8] (fun i wr => ∃ j : Nat, 64 * j ≤ M.length ∧ i = .int .i64 (64 * (j : Int)) ∧ RefAt w0 Hb Kb (.slice (some ⟨mb, mo, none⟩) M.length cm) M (stTo M j) wr) (fun i _ => M.length - (intOf i).toNat)
  case atStart => exact ⟨0, by omega, rfl, unhide HR⟩
  case round =>
    obtain ⟨j, hj, rfl, hR⟩ := hrel
    clear HR
    by_cases hlt : 64 * j < M.length
    · have hj64 : 64 * j + 64 ≤ M.length := by omega
      have hML : (M.length : Int) ≤ 1048800 := by omega
      have hlI : 64 * (j : Int) < (M.length : Int) := by omega
      have HR1 := hide (hR.alloc (.cells (List.replicate 64 (Value.int .u32 0)).toArray 40))
      have hlt1 := hR.lt
      have hmb : M ≠ [] := fun e => by rw [e] at hj64; simp at hj64
      have hold := hR.m.old hmb mb rfl
      have HR := hide hR
      clear hR HE
      go_wp2
      refine ref_sched M j hj64 hM mb mo cm wr.heap.size (by omega) hcm (wr.alloc (.cells (List.replicate 64 (Value.int .u32 0)).toArray 40)) ((unhide HR1).m.range hmb) (heap_alloc_new wr _) _ _ _ _ _ _ _ _ _ _ _ _ _ _ _ _ _ _ _ _ _ _ _ _ _ _ _ _ _ _ _ _ _ _ _ _ _ _ _ _ _ _ _ _ _ _ _ _ _ _ _ _ _ _ _ _ _ _ _ _ _ _ _ _ _ _ _ _ _ _ _ _ _ _ _ _ _ _ _ _ _ _ _ _ _ _ _ _ _ _ _ _ _ _ _ _ _ _ _ _ _ _ _ _ _ _ _ _ _ _ _ _ _ _ _ _ _ _ _ _ _ _ _ _ _ _ _ _ _ _ _ _ _ _ _ _ _ _ _ _ _ _ _ _ _ _ _ _ _ _ _ _ _ _ _ _ _ _ _ _ _ _ _ _ _ _ _ _ _ _ _ _ _ _ _ _ _ _ _ _ _ _ _ _ _ _ _ _ _ _ _ _ _ _ _ _ _ _ _ _ _ _ _ _ _ _ _ _ _ _ _ _ _ _ _ _ _ _ _ _ _ _ _ _ _ _ _ _ _ _ _ _ _ _ _ _ _ _ _ _ _ _ _ _ _ _ _ _ _ _ _ ?_
      intro u10 u11 u12 u13 u58 u59 u60 u61 u62 u63 u64 u65 u66 u67 u68 u69 u70 u71 u72 u73 u74 u75 u76 u77 u78 u79 u80 u81 u82 u83 u84 u85 u86 u87 u88 u89 u90 u91 u92 u93 u94 u95 u96 u97 u98 u99 u100 u101 u102 u103 u104 u105 u106 u107 u108 u109 u110 u111 u112 u113 u114 u115 u116 u117 u118 u119 u120 u121 u122 u123 u124 u125 u126 u127 u128 u129 u130 u131 u132 u133 u134 u135 w1 hW1 hG1
      have hR1 := (unhide HR1).grown hG1 hlt1 (fun e => by have e2 : mb = wr.heap.size := Option.some.inj e; omega)
      have hs1 : wr.heap.size < w1.heap.size := (Array.getElem?_eq_some_iff.1 hW1).1
      have HW1 := hide hW1
      have HR2 := hide hR1
      generalize hWb : wr.heap.size = Wb at *
      clear HR HR1 hG1 hW1 hR1
      have hm1 : mb < w1.heap.size := by omega
      have hss : (((stTo M j).map wv).toArray).size = 8 := by simp [length_stTo]
      have h1H := one_words (stTo M j)
      have hHW : (w1.alloc (.cells ((stTo M j).map wv).toArray 39)).heap[w1.heap.size]? = some (.cells ((stTo M j).map wv).toArray 39 (0, 0)) := heap_alloc_new _ _
      have hRv := (unhide HR2).alloc (.cells ((stTo M j).map wv).toArray 39)
      have hH1 := (unhide HR2).h
      have hWv : (w1.alloc (.cells ((stTo M j).map wv).toArray 39)).heap[Wb]? = some (.cells ((wordsTo ((M.drop (64 * j)).take 64) 64).map wv).toArray 40 (0, 0)) := by rw [heap_alloc_old _ _ hs1]; exact unhide HW1
      have hrw := fun (c : Array Value) => World.setRow_alloc_new w1 c ((stTo M j).map wv).toArray 39
      generalize hE1 : w1.alloc (.cells ((stTo M j).map wv).toArray 39) = W1 at hHW hRv hWv hrw
      generalize hhh : ((stTo M j).map wv).toArray = ss at hss h1H hHW hrw hH1 hE1
      have Hhh := hide hhh
      have H1H := hide h1H
      have HHW := hide hHW
      have HRv := hide hRv
      have HWv := hide hWv
      have HH1 := hide hH1
      clear hhh h1H hHW hRv hWv hH1 hE1 HR2 HW1
      go_wp2_with (first | (refine wpList_load_row rfl 39 _ rfl Hb rfl 39 ss (0, 0) _ (unhide HH1) Tryd.underlying39 rfl (by rw [hss]; kernel_rfl) ?_) | (refine wpList_store_row rfl 39 _ _ rfl w1.heap.size ss rfl rfl 39 _ (heap_alloc_new w1 _) (by rw [hss]; kernel_rfl) (by rw [hss]; rfl) (unhide H1H) ?_))
      have hst8 := length_stTo M j
      have hl8 := list_ofList8 _ hst8
      have hV5 : W1.heap[w1.heap.size]? = some (.cells ((ofList8 (stTo M j)).list.map wv).toArray 39 (0, 0)) := by rw [hl8, unhide Hhh]; exact unhide HHW
      refine ref_rounds (ofList8 (stTo M j)) (wordsTo ((M.drop (64 * j)).take 64) 64) (length_wordsTo _ _) Kb Wb w1.heap.size (by omega) (by omega) W1 (unhide HRv).k (unhide HWv) hV5 _ _ _ _ _ _ _ _ _ _ _ _ _ _ _ _ _ _ _ _ _ _ _ _ _ _ _ _ _ _ _ _ _ _ _ _ _ _ _ _ _ _ _ _ _ _ _ _ _ _ _ _ _ _ _ _ _ _ _ _ _ _ _ _ _ _ _ _ _ _ _ _ _ _ _ _ _ _ _ _ _ _ _ _ _ _ _ _ _ _ _ _ _ _ _ _ _ _ _ _ _ _ _ _ _ _ _ _ _ _ _ _ _ _ _ _ _ _ _ _ _ _ _ _ _ _ _ _ _ _ _ _ _ _ _ _ _ _ _ _ _ _ _ _ _ _ _ _ _ _ _ _ _ _ _ _ _ _ _ _ _ _ _ _ _ _ _ _ _ _ _ _ _ _ _ _ _ _ _ _ _ _ _ _ _ _ _ _ _ _ _ _ _ _ _ _ _ _ _ _ _ _ _ _ _ _ _ _ _ _ _ _ _ _ _ _ _ _ _ _ _ _ _ _ _ _ _ _ _ _ _ _ _ _ _ _ _ _ _ _ _ _ _ _ _ _ _ _ _ _ _ ?_
      intro u15 u16 u17 u18 u137 u138 u139 u140 u141 u142 u143 u144 u145 u146 u147 u148 u149 u150 u151 u152 u153 u154 u155 u156 u157 u158 u159 u160 u161 u162 u163 u164 u165 u166 u167 u168 u169 u170 u171 u172 u173 u174 u175 u176 u177 u178 u179 u180 u181 u182 u183 u184 u185 u186 u187 u188 u189 u190 u191 u192 u193 u194 u195 u196 u197 u198 u199 u200 u201 u202 u203 u204 u205 u206 u207 u208 u209 u210 u211 u212 u213 u214 u215 u216 u217 u218 u219 u220 u221 u222 u223 w2 hV2 hG2
      have hR2 := (unhide HRv).grown hG2 (by omega) (fun e => by have e2 : mb = w1.heap.size := Option.some.inj e; omega)
      have HR3 := hide hR2
      have HV2 := hide hV2
      clear hV2 hG2 hR2 hV5 HRv HWv HHW HH1 H1H hrw hss Hhh
      go_wp2
      refine ref_add (stTo M j) (roundsTo (ofList8 (stTo M j)) (wordsTo ((M.drop (64 * j)).take 64) 64) 64).list hst8 rfl Hb w1.heap.size (by have := (unhide HR3).kb; omega) w2 (unhide HR3).h (unhide HV2) _ _ _ _ _ _ _ _ _ _ _ _ _ _ _ _ _ _ _ _ _ _ _ _ _ _ _ _ _ _ _ _ _ _ _ _ _ _ _ _ _ _ _ _ _ _ _ _ _ _ _ _ _ _ _ _ _ _ _ _ _ _ _ _ _ _ _ _ _ _ _ _ _ _ _ _ _ _ _ _ _ _ _ _ _ _ _ _ _ _ _ _ _ _ _ _ _ _ _ _ _ _ _ _ _ _ _ _ _ _ _ _ _ _ _ _ _ _ _ _ _ _ _ _ _ _ _ _ _ _ _ _ _ _ _ _ _ _ _ _ _ _ _ _ _ _ _ _ _ _ _ _ _ _ _ _ _ _ _ _ _ _ _ _ _ _ _ _ _ _ _ _ _ _ _ _ _ _ _ _ _ _ _ _ _ _ _ _ _ _ _ _ _ _ _ _ _ _ _ _ _ _ _ _ _ _ _ _ _ _ _ _ _ _ _ _ _ _ _ _ _ _ _ _ _ _ _ _ _ _ _ _ _ _ _ _ _ _ _ _ _ _ _ _ _ _ _ _ _ _ _ _ ?_
      intro u19 u224 u225 u226 u227 u228 u229 u230 u231 u232 u233 u234 u235 w3 hH3 hG3
      have hR4 : RefAt w0 Hb Kb (.slice (some ⟨mb, mo, none⟩) M.length cm) M (stTo M (j + 1)) w3 := (unhide HR3).grownH hG3 hH3
      have HR4 := hide hR4
      clear hH3 hG3 hR4 HR3 HV2 hl8 hst8
      go_wp2
      go_roundw
      case rel =>
        have hi : Value.int .i64 (64 * (j : Int) + 64) = .int .i64 (64 * ((j + 1 : Nat) : Int)) := congrArg _ (by omega)
        first
          | exact ⟨j + 1, by omega, hi, unhide HR4⟩
          | ((repeat apply Exists.intro); exact ⟨⟨j + 1, by omega, hi, unhide HR4⟩, rfl⟩)
          | (trace_state; fail)
      case measure => simp [intOf]; omega
    · have hje : M.length / 64 = j := by omega
      have HR := hide hR
      have hML : (M.length : Int) ≤ 1048800 := by omega
      have hnl : ¬ 64 * (j : Int) < (M.length : Int) := by omega
      rw [← hje] at HR
      clear hR hlt
      go_wp2
      exact unhide HE _ _ _ _ _ _ _ _ _ _ _ _ _ _ _ _ _ _ _ _ _ _ _ _ _ _ _ _ _ _ _ _ _ _ _ _ _ _ _ _ _ _ _ _ _ _ _ _ _ _ _ _ _ _ _ _ _ _ _ _ _ _ _ _ _ _ _ _ _ _ _ _ _ _ _ _ _ _ _ _ _ _ _ _ _ _ _ _ _ _ _ _ _ _ _ _ _ _ _ _ _ _ _ _ _ _ _ _ _ _ _ _ _ _ _ _ _ _ _ _ _ _ _ _ _ _ _ _ _ _ _ _ _ _ _ _ _ _ _ _ _ _ _ _ _ _ _ _ _ _ _ _ _ _ _ _ _ _ _ _ _ _ _ _ _ _ _ _ _ _ _ _ _ _ _ _ _ _ _ _ _ _ _ _ _ _ _ _ _ _ _ _ _ _ _ _ _ _ _ _ _ _ _ _ _ _ _ _ _ _ _ _ _ _ _ _ _ _ _ _ _ _ _ _ _ _ _ _ _ _ _ _ _ _ _ _ _ _ _ _ _ _ _ _ _ _ _ (unhide HR)
end Go.Proofs.YtodcpcdhkghgnaaDoor
