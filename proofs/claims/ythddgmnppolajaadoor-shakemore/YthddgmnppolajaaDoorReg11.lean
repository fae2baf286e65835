/-
  The last region of round, and what the round comes to, lane by lane.
-/
import Derived.Test.YthddgmnppolajaaDoorLane
import Derived.Deep.RegionHeld3
import Derived.BigRegion
import Derived.Deep.RegionWith
namespace Go.Proofs.YthddgmnppolajaaDoor
open Go.RowKit
set_option maxRecDepth 100000 in
set_option maxHeartbeats 8000000 in
theorem row_reg11 (bo : Nat) (z n : UInt64) (l : List UInt64) (W : World) (hO : LaneAt W bo (z :: l)) (Q0 : Exit → Act → World → Prop) (c1 c3 c4 c5 c6 c7 c8 c9 c10 c11 c12 c13 c14 c15 c16 c17 c18 c19 c20 c21 c22 c23 c24 c25 c26 c27 c28 c29 c30 c31 c32 c33 c34 c35 c36 c37 c38 c39 c40 c41 c42 c43 c44 c45 c46 c47 c48 c49 c50 c51 c52 c53 c54 c55 c56 c57 c58 c59 c60 c61 c62 c63 c64 c65 c66 c67 c68 c69 c70 c71 c72 c73 c74 c75 c76 c77 c78 c79 c80 c81 c82 c83 c84 c85 c86 c87 c88 c89 c90 c91 c92 c93 c94 c95 c96 c97 c98 c99 c100 c101 c102 c103 c104 c105 c106 c107 c108 c109 c110 c111 c112 c113 c114 c115 c116 c117 c118 c119 c120 c121 c122 c123 c124 c125 c126 c127 c128 c129 c130 c131 c132 c133 c134 c135 c136 c137 c138 c139 c140 c141 c142 c143 c144 c145 c146 c147 c148 c149 c150 c151 c152 c153 c154 c155 c156 c157 c158 c159 c160 c161 c162 c163 c164 c165 c166 c167 c168 c169 c170 c171 c172 c173 c174 c175 c176 c177 c178 c179 c180 c181 c182 c183 c184 c185 c186 c187 c188 c189 c190 c191 c192 c193 c194 c195 c196 c197 c198 c199 c200 c201 c202 c203 c204 c205 c206 c207 c208 c209 c210 c211 c212 c213 c214 c215 c216 c217 c218 c219 c220 c221 c222 c223 c224 c225 c226 c227 c228 c229 c230 c231 c232 c233 c234 c235 c236 c237 c238 c239 c240 c241 c242 c243 c244 c245 c246 c247 c248 c249 c250 c251 c252 c253 c254 c255 c256 c257 c258 c259 c260 c261 c262 c263 c264 c265 c266 c267 c268 c269 c270 c271 c272 c273 c274 c275 c276 c277 c278 c279 c280 c281 c282 c283 c284 c285 c286 c287 c288 c289 c290 c291 c292 c293 c294 c295 c296 c297 c298 c299 c300 c301 c302 c303 c304 c305 c306 c307 c308 c309 c310 c311 c312 c313 c314 c315 c316 c317 c318 c319 c320 c321 c322 c323 c324 c325 c326 c327 c328 c329 c330 c331 c332 c333 c334 c335 c336 c337 c338 c339 c340 c341 c342 c343 c344 c345 c346 c347 c348 c349 c350 c351 c352 c353 c354 c355 c356 c357 c358 c359 c360 c361 c362 c363 c364 c365 c366 c367 c368 c369 c370 c371 c372 c373 c374 c375 c376 c377 c378 c379 c380 c381 c382 c383 c384 c385 c386 c387 c388 c389 c390 c391 c392 c393 c394 c395 c396 c397 c398 c399 c400 c401 c402 c403 c404 c405 c406 c407 c408 c409 c410 c411 c412 c413 c414 c415 c416 c417 c418 c419 c420 c421 c422 c423 c424 c425 c426 c427 c428 c429 c430 c431 c432 c433 c434 c435 c436 c437 c438 c439 u440 u441 u442 u443 u444 u445 u446 u447 : Value)
    (hexit : ∀ (v440 v441 v442 v443 v444 v445 v446 v447 : Value) (W' : World), LaneAt W' bo ((z ^^^ n) :: l) → W.grownBy W' (some bo) → Q0 .normal ⟨(.pointer (some ⟨bo, 0, none⟩) :: c1 :: .int .u64 (lv n) :: c3 :: c4 :: c5 :: c6 :: c7 :: c8 :: c9 :: c10 :: c11 :: c12 :: c13 :: c14 :: c15 :: c16 :: c17 :: c18 :: c19 :: c20 :: c21 :: c22 :: c23 :: c24 :: c25 :: c26 :: c27 :: c28 :: c29 :: c30 :: c31 :: c32 :: c33 :: c34 :: c35 :: c36 :: c37 :: c38 :: c39 :: c40 :: c41 :: c42 :: c43 :: c44 :: c45 :: c46 :: c47 :: c48 :: c49 :: c50 :: c51 :: c52 :: c53 :: c54 :: c55 :: c56 :: c57 :: c58 :: c59 :: c60 :: c61 :: c62 :: c63 :: c64 :: c65 :: c66 :: c67 :: c68 :: c69 :: c70 :: c71 :: c72 :: c73 :: c74 :: c75 :: c76 :: c77 :: c78 :: c79 :: c80 :: c81 :: c82 :: c83 :: c84 :: c85 :: c86 :: c87 :: c88 :: c89 :: c90 :: c91 :: c92 :: c93 :: c94 :: c95 :: c96 :: c97 :: c98 :: c99 :: c100 :: c101 :: c102 :: c103 :: c104 :: c105 :: c106 :: c107 :: c108 :: c109 :: c110 :: c111 :: c112 :: c113 :: c114 :: c115 :: c116 :: c117 :: c118 :: c119 :: c120 :: c121 :: c122 :: c123 :: c124 :: c125 :: c126 :: c127 :: c128 :: c129 :: c130 :: c131 :: c132 :: c133 :: c134 :: c135 :: c136 :: c137 :: c138 :: c139 :: c140 :: c141 :: c142 :: c143 :: c144 :: c145 :: c146 :: c147 :: c148 :: c149 :: c150 :: c151 :: c152 :: c153 :: c154 :: c155 :: c156 :: c157 :: c158 :: c159 :: c160 :: c161 :: c162 :: c163 :: c164 :: c165 :: c166 :: c167 :: c168 :: c169 :: c170 :: c171 :: c172 :: c173 :: c174 :: c175 :: c176 :: c177 :: c178 :: c179 :: c180 :: c181 :: c182 :: c183 :: c184 :: c185 :: c186 :: c187 :: c188 :: c189 :: c190 :: c191 :: c192 :: c193 :: c194 :: c195 :: c196 :: c197 :: c198 :: c199 :: c200 :: c201 :: c202 :: c203 :: c204 :: c205 :: c206 :: c207 :: c208 :: c209 :: c210 :: c211 :: c212 :: c213 :: c214 :: c215 :: c216 :: c217 :: c218 :: c219 :: c220 :: c221 :: c222 :: c223 :: c224 :: c225 :: c226 :: c227 :: c228 :: c229 :: c230 :: c231 :: c232 :: c233 :: c234 :: c235 :: c236 :: c237 :: c238 :: c239 :: c240 :: c241 :: c242 :: c243 :: c244 :: c245 :: c246 :: c247 :: c248 :: c249 :: c250 :: c251 :: c252 :: c253 :: c254 :: c255 :: c256 :: c257 :: c258 :: c259 :: c260 :: c261 :: c262 :: c263 :: c264 :: c265 :: c266 :: c267 :: c268 :: c269 :: c270 :: c271 :: c272 :: c273 :: c274 :: c275 :: c276 :: c277 :: c278 :: c279 :: c280 :: c281 :: c282 :: c283 :: c284 :: c285 :: c286 :: c287 :: c288 :: c289 :: c290 :: c291 :: c292 :: c293 :: c294 :: c295 :: c296 :: c297 :: c298 :: c299 :: c300 :: c301 :: c302 :: c303 :: c304 :: c305 :: c306 :: c307 :: c308 :: c309 :: c310 :: c311 :: c312 :: c313 :: c314 :: c315 :: c316 :: c317 :: c318 :: c319 :: c320 :: c321 :: c322 :: c323 :: c324 :: c325 :: c326 :: c327 :: c328 :: c329 :: c330 :: c331 :: c332 :: c333 :: c334 :: c335 :: c336 :: c337 :: c338 :: c339 :: c340 :: c341 :: c342 :: c343 :: c344 :: c345 :: c346 :: c347 :: c348 :: c349 :: c350 :: c351 :: c352 :: c353 :: c354 :: c355 :: c356 :: c357 :: c358 :: c359 :: c360 :: c361 :: c362 :: c363 :: c364 :: c365 :: c366 :: c367 :: c368 :: c369 :: c370 :: c371 :: c372 :: c373 :: c374 :: c375 :: c376 :: c377 :: c378 :: c379 :: c380 :: c381 :: c382 :: c383 :: c384 :: c385 :: c386 :: c387 :: c388 :: c389 :: c390 :: c391 :: c392 :: c393 :: c394 :: c395 :: c396 :: c397 :: c398 :: c399 :: c400 :: c401 :: c402 :: c403 :: c404 :: c405 :: c406 :: c407 :: c408 :: c409 :: c410 :: c411 :: c412 :: c413 :: c414 :: c415 :: c416 :: c417 :: c418 :: c419 :: c420 :: c421 :: c422 :: c423 :: c424 :: c425 :: c426 :: c427 :: c428 :: c429 :: c430 :: c431 :: c432 :: c433 :: c434 :: c435 :: c436 :: c437 :: c438 :: c439 :: v440 :: v441 :: v442 :: v443 :: v444 :: v445 :: v446 :: v447 :: []).toArray, []⟩ W') :
    Code.wp Tryd.prog ((regsOf (Tryd.f23.body.getD .skip)).getD 11 .skip) Q0 ⟨(.pointer (some ⟨bo, 0, none⟩) :: c1 :: .int .u64 (lv n) :: c3 :: c4 :: c5 :: c6 :: c7 :: c8 :: c9 :: c10 :: c11 :: c12 :: c13 :: c14 :: c15 :: c16 :: c17 :: c18 :: c19 :: c20 :: c21 :: c22 :: c23 :: c24 :: c25 :: c26 :: c27 :: c28 :: c29 :: c30 :: c31 :: c32 :: c33 :: c34 :: c35 :: c36 :: c37 :: c38 :: c39 :: c40 :: c41 :: c42 :: c43 :: c44 :: c45 :: c46 :: c47 :: c48 :: c49 :: c50 :: c51 :: c52 :: c53 :: c54 :: c55 :: c56 :: c57 :: c58 :: c59 :: c60 :: c61 :: c62 :: c63 :: c64 :: c65 :: c66 :: c67 :: c68 :: c69 :: c70 :: c71 :: c72 :: c73 :: c74 :: c75 :: c76 :: c77 :: c78 :: c79 :: c80 :: c81 :: c82 :: c83 :: c84 :: c85 :: c86 :: c87 :: c88 :: c89 :: c90 :: c91 :: c92 :: c93 :: c94 :: c95 :: c96 :: c97 :: c98 :: c99 :: c100 :: c101 :: c102 :: c103 :: c104 :: c105 :: c106 :: c107 :: c108 :: c109 :: c110 :: c111 :: c112 :: c113 :: c114 :: c115 :: c116 :: c117 :: c118 :: c119 :: c120 :: c121 :: c122 :: c123 :: c124 :: c125 :: c126 :: c127 :: c128 :: c129 :: c130 :: c131 :: c132 :: c133 :: c134 :: c135 :: c136 :: c137 :: c138 :: c139 :: c140 :: c141 :: c142 :: c143 :: c144 :: c145 :: c146 :: c147 :: c148 :: c149 :: c150 :: c151 :: c152 :: c153 :: c154 :: c155 :: c156 :: c157 :: c158 :: c159 :: c160 :: c161 :: c162 :: c163 :: c164 :: c165 :: c166 :: c167 :: c168 :: c169 :: c170 :: c171 :: c172 :: c173 :: c174 :: c175 :: c176 :: c177 :: c178 :: c179 :: c180 :: c181 :: c182 :: c183 :: c184 :: c185 :: c186 :: c187 :: c188 :: c189 :: c190 :: c191 :: c192 :: c193 :: c194 :: c195 :: c196 :: c197 :: c198 :: c199 :: c200 :: c201 :: c202 :: c203 :: c204 :: c205 :: c206 :: c207 :: c208 :: c209 :: c210 :: c211 :: c212 :: c213 :: c214 :: c215 :: c216 :: c217 :: c218 :: c219 :: c220 :: c221 :: c222 :: c223 :: c224 :: c225 :: c226 :: c227 :: c228 :: c229 :: c230 :: c231 :: c232 :: c233 :: c234 :: c235 :: c236 :: c237 :: c238 :: c239 :: c240 :: c241 :: c242 :: c243 :: c244 :: c245 :: c246 :: c247 :: c248 :: c249 :: c250 :: c251 :: c252 :: c253 :: c254 :: c255 :: c256 :: c257 :: c258 :: c259 :: c260 :: c261 :: c262 :: c263 :: c264 :: c265 :: c266 :: c267 :: c268 :: c269 :: c270 :: c271 :: c272 :: c273 :: c274 :: c275 :: c276 :: c277 :: c278 :: c279 :: c280 :: c281 :: c282 :: c283 :: c284 :: c285 :: c286 :: c287 :: c288 :: c289 :: c290 :: c291 :: c292 :: c293 :: c294 :: c295 :: c296 :: c297 :: c298 :: c299 :: c300 :: c301 :: c302 :: c303 :: c304 :: c305 :: c306 :: c307 :: c308 :: c309 :: c310 :: c311 :: c312 :: c313 :: c314 :: c315 :: c316 :: c317 :: c318 :: c319 :: c320 :: c321 :: c322 :: c323 :: c324 :: c325 :: c326 :: c327 :: c328 :: c329 :: c330 :: c331 :: c332 :: c333 :: c334 :: c335 :: c336 :: c337 :: c338 :: c339 :: c340 :: c341 :: c342 :: c343 :: c344 :: c345 :: c346 :: c347 :: c348 :: c349 :: c350 :: c351 :: c352 :: c353 :: c354 :: c355 :: c356 :: c357 :: c358 :: c359 :: c360 :: c361 :: c362 :: c363 :: c364 :: c365 :: c366 :: c367 :: c368 :: c369 :: c370 :: c371 :: c372 :: c373 :: c374 :: c375 :: c376 :: c377 :: c378 :: c379 :: c380 :: c381 :: c382 :: c383 :: c384 :: c385 :: c386 :: c387 :: c388 :: c389 :: c390 :: c391 :: c392 :: c393 :: c394 :: c395 :: c396 :: c397 :: c398 :: c399 :: c400 :: c401 :: c402 :: c403 :: c404 :: c405 :: c406 :: c407 :: c408 :: c409 :: c410 :: c411 :: c412 :: c413 :: c414 :: c415 :: c416 :: c417 :: c418 :: c419 :: c420 :: c421 :: c422 :: c423 :: c424 :: c425 :: c426 :: c427 :: c428 :: c429 :: c430 :: c431 :: c432 :: c433 :: c434 :: c435 :: c436 :: c437 :: c438 :: c439 :: u440 :: u441 :: u442 :: u443 :: u444 :: u445 :: u446 :: u447 :: []).toArray, []⟩ W := by
  conv => arg 2; whnf
  have HE := hide hexit
  have e0 : W.cell? ⟨bo, 0, none⟩ = some (.int .u64 (lv z)) := hO.cell 0 (by simp)
  have f0 := hO.frozen 0
  have hs : LaneAt (W.setCell ⟨bo, 0, none⟩ (.int .u64 (bits .xor .u64 (lv z) (lv n)))) bo ((z ^^^ n) :: l) := by rw [lv_xor]; exact hO.set 0 (z ^^^ n)
  have HS := hide hs
  clear hexit hO hs
  refine wp_region_noPanic ?_
  go_region
  refine NoPanic.normal ?_
  exact unhide HE _ _ _ _ _ _ _ _ _ (unhide HS).drew (grown_drew (grown1 (World.grownBy.refl W (some bo)) _ _))
theorem list25 {o : List UInt64} (ho : o.length = 25) : ∃ y0 y1 y2 y3 y4 y5 y6 y7 y8 y9 y10 y11 y12 y13 y14 y15 y16 y17 y18 y19 y20 y21 y22 y23 y24 : UInt64, o = [y0, y1, y2, y3, y4, y5, y6, y7, y8, y9, y10, y11, y12, y13, y14, y15, y16, y17, y18, y19, y20, y21, y22, y23, y24] := by
  obtain ⟨y0, o, rfl⟩ := List.exists_cons_of_length_pos (l := o) (by omega)
  simp only [List.length_cons, Nat.reduceEqDiff] at ho
  obtain ⟨y1, o, rfl⟩ := List.exists_cons_of_length_pos (l := o) (by omega)
  simp only [List.length_cons, Nat.reduceEqDiff] at ho
  obtain ⟨y2, o, rfl⟩ := List.exists_cons_of_length_pos (l := o) (by omega)
  simp only [List.length_cons, Nat.reduceEqDiff] at ho
  obtain ⟨y3, o, rfl⟩ := List.exists_cons_of_length_pos (l := o) (by omega)
  simp only [List.length_cons, Nat.reduceEqDiff] at ho
  obtain ⟨y4, o, rfl⟩ := List.exists_cons_of_length_pos (l := o) (by omega)
  simp only [List.length_cons, Nat.reduceEqDiff] at ho
  obtain ⟨y5, o, rfl⟩ := List.exists_cons_of_length_pos (l := o) (by omega)
  simp only [List.length_cons, Nat.reduceEqDiff] at ho
  obtain ⟨y6, o, rfl⟩ := List.exists_cons_of_length_pos (l := o) (by omega)
  simp only [List.length_cons, Nat.reduceEqDiff] at ho
  obtain ⟨y7, o, rfl⟩ := List.exists_cons_of_length_pos (l := o) (by omega)
  simp only [List.length_cons, Nat.reduceEqDiff] at ho
  obtain ⟨y8, o, rfl⟩ := List.exists_cons_of_length_pos (l := o) (by omega)
  simp only [List.length_cons, Nat.reduceEqDiff] at ho
  obtain ⟨y9, o, rfl⟩ := List.exists_cons_of_length_pos (l := o) (by omega)
  simp only [List.length_cons, Nat.reduceEqDiff] at ho
  obtain ⟨y10, o, rfl⟩ := List.exists_cons_of_length_pos (l := o) (by omega)
  simp only [List.length_cons, Nat.reduceEqDiff] at ho
  obtain ⟨y11, o, rfl⟩ := List.exists_cons_of_length_pos (l := o) (by omega)
  simp only [List.length_cons, Nat.reduceEqDiff] at ho
  obtain ⟨y12, o, rfl⟩ := List.exists_cons_of_length_pos (l := o) (by omega)
  simp only [List.length_cons, Nat.reduceEqDiff] at ho
  obtain ⟨y13, o, rfl⟩ := List.exists_cons_of_length_pos (l := o) (by omega)
  simp only [List.length_cons, Nat.reduceEqDiff] at ho
  obtain ⟨y14, o, rfl⟩ := List.exists_cons_of_length_pos (l := o) (by omega)
  simp only [List.length_cons, Nat.reduceEqDiff] at ho
  obtain ⟨y15, o, rfl⟩ := List.exists_cons_of_length_pos (l := o) (by omega)
  simp only [List.length_cons, Nat.reduceEqDiff] at ho
  obtain ⟨y16, o, rfl⟩ := List.exists_cons_of_length_pos (l := o) (by omega)
  simp only [List.length_cons, Nat.reduceEqDiff] at ho
  obtain ⟨y17, o, rfl⟩ := List.exists_cons_of_length_pos (l := o) (by omega)
  simp only [List.length_cons, Nat.reduceEqDiff] at ho
  obtain ⟨y18, o, rfl⟩ := List.exists_cons_of_length_pos (l := o) (by omega)
  simp only [List.length_cons, Nat.reduceEqDiff] at ho
  obtain ⟨y19, o, rfl⟩ := List.exists_cons_of_length_pos (l := o) (by omega)
  simp only [List.length_cons, Nat.reduceEqDiff] at ho
  obtain ⟨y20, o, rfl⟩ := List.exists_cons_of_length_pos (l := o) (by omega)
  simp only [List.length_cons, Nat.reduceEqDiff] at ho
  obtain ⟨y21, o, rfl⟩ := List.exists_cons_of_length_pos (l := o) (by omega)
  simp only [List.length_cons, Nat.reduceEqDiff] at ho
  obtain ⟨y22, o, rfl⟩ := List.exists_cons_of_length_pos (l := o) (by omega)
  simp only [List.length_cons, Nat.reduceEqDiff] at ho
  obtain ⟨y23, o, rfl⟩ := List.exists_cons_of_length_pos (l := o) (by omega)
  simp only [List.length_cons, Nat.reduceEqDiff] at ho
  obtain ⟨y24, o, rfl⟩ := List.exists_cons_of_length_pos (l := o) (by omega)
  simp only [List.length_cons, Nat.reduceEqDiff] at ho
  obtain rfl := List.eq_nil_of_length_eq_zero ho
  exact ⟨y0, y1, y2, y3, y4, y5, y6, y7, y8, y9, y10, y11, y12, y13, y14, y15, y16, y17, y18, y19, y20, y21, y22, y23, y24, rfl⟩
theorem sets25 (o : List UInt64) (ho : o.length = 25) (a0 a1 a2 a3 a4 a5 a6 a7 a8 a9 a10 a11 a12 a13 a14 a15 a16 a17 a18 a19 a20 a21 a22 a23 a24 : UInt64) : (((((((((((((((((((((((((o.set 0 a0).set 1 a1).set 2 a2).set 3 a3).set 4 a4).set 5 a5).set 6 a6).set 7 a7).set 8 a8).set 9 a9).set 10 a10).set 11 a11).set 12 a12).set 13 a13).set 14 a14).set 15 a15).set 16 a16).set 17 a17).set 18 a18).set 19 a19).set 20 a20).set 21 a21).set 22 a22).set 23 a23).set 24 a24) = [a0, a1, a2, a3, a4, a5, a6, a7, a8, a9, a10, a11, a12, a13, a14, a15, a16, a17, a18, a19, a20, a21, a22, a23, a24] := by
  obtain ⟨y0, y1, y2, y3, y4, y5, y6, y7, y8, y9, y10, y11, y12, y13, y14, y15, y16, y17, y18, y19, y20, y21, y22, y23, y24, rfl⟩ : ∃ y0 y1 y2 y3 y4 y5 y6 y7 y8 y9 y10 y11 y12 y13 y14 y15 y16 y17 y18 y19 y20 y21 y22 y23 y24 : UInt64, o = [y0, y1, y2, y3, y4, y5, y6, y7, y8, y9, y10, y11, y12, y13, y14, y15, y16, y17, y18, y19, y20, y21, y22, y23, y24] := list25 ho
  simp only [List.set]
set_option maxRecDepth 100000 in
theorem rnd_form (x0 x1 x2 x3 x4 x5 x6 x7 x8 x9 x10 x11 x12 x13 x14 x15 x16 x17 x18 x19 x20 x21 x22 x23 x24 c0 c1 c2 c3 c4 d0 d1 d2 d3 d4 n : UInt64)
    (hc0 : x0 ^^^ x5 ^^^ x10 ^^^ x15 ^^^ x20 = c0)
    (hc1 : x1 ^^^ x6 ^^^ x11 ^^^ x16 ^^^ x21 = c1)
    (hc2 : x2 ^^^ x7 ^^^ x12 ^^^ x17 ^^^ x22 = c2)
    (hc3 : x3 ^^^ x8 ^^^ x13 ^^^ x18 ^^^ x23 = c3)
    (hc4 : x4 ^^^ x9 ^^^ x14 ^^^ x19 ^^^ x24 = c4)
    (hd0 : c4 ^^^ rotl c1 1 = d0)
    (hd1 : c0 ^^^ rotl c2 1 = d1)
    (hd2 : c1 ^^^ rotl c3 1 = d2)
    (hd3 : c2 ^^^ rotl c4 1 = d3)
    (hd4 : c3 ^^^ rotl c0 1 = d4)
    : rndOf [x0, x1, x2, x3, x4, x5, x6, x7, x8, x9, x10, x11, x12, x13, x14, x15, x16, x17, x18, x19, x20, x21, x22, x23, x24] n = [((x0 ^^^ d0) ^^^ (~~~(rotl (x6 ^^^ d1) 44) &&& (rotl (x12 ^^^ d2) 43))) ^^^ n, ((rotl (x6 ^^^ d1) 44) ^^^ (~~~(rotl (x12 ^^^ d2) 43) &&& (rotl (x18 ^^^ d3) 21))), ((rotl (x12 ^^^ d2) 43) ^^^ (~~~(rotl (x18 ^^^ d3) 21) &&& (rotl (x24 ^^^ d4) 14))), ((rotl (x18 ^^^ d3) 21) ^^^ (~~~(rotl (x24 ^^^ d4) 14) &&& (x0 ^^^ d0))), ((rotl (x24 ^^^ d4) 14) ^^^ (~~~(x0 ^^^ d0) &&& (rotl (x6 ^^^ d1) 44))), ((rotl (x3 ^^^ d3) 28) ^^^ (~~~(rotl (x9 ^^^ d4) 20) &&& (rotl (x10 ^^^ d0) 3))), ((rotl (x9 ^^^ d4) 20) ^^^ (~~~(rotl (x10 ^^^ d0) 3) &&& (rotl (x16 ^^^ d1) 45))), ((rotl (x10 ^^^ d0) 3) ^^^ (~~~(rotl (x16 ^^^ d1) 45) &&& (rotl (x22 ^^^ d2) 61))), ((rotl (x16 ^^^ d1) 45) ^^^ (~~~(rotl (x22 ^^^ d2) 61) &&& (rotl (x3 ^^^ d3) 28))), ((rotl (x22 ^^^ d2) 61) ^^^ (~~~(rotl (x3 ^^^ d3) 28) &&& (rotl (x9 ^^^ d4) 20))), ((rotl (x1 ^^^ d1) 1) ^^^ (~~~(rotl (x7 ^^^ d2) 6) &&& (rotl (x13 ^^^ d3) 25))), ((rotl (x7 ^^^ d2) 6) ^^^ (~~~(rotl (x13 ^^^ d3) 25) &&& (rotl (x19 ^^^ d4) 8))), ((rotl (x13 ^^^ d3) 25) ^^^ (~~~(rotl (x19 ^^^ d4) 8) &&& (rotl (x20 ^^^ d0) 18))), ((rotl (x19 ^^^ d4) 8) ^^^ (~~~(rotl (x20 ^^^ d0) 18) &&& (rotl (x1 ^^^ d1) 1))), ((rotl (x20 ^^^ d0) 18) ^^^ (~~~(rotl (x1 ^^^ d1) 1) &&& (rotl (x7 ^^^ d2) 6))), ((rotl (x4 ^^^ d4) 27) ^^^ (~~~(rotl (x5 ^^^ d0) 36) &&& (rotl (x11 ^^^ d1) 10))), ((rotl (x5 ^^^ d0) 36) ^^^ (~~~(rotl (x11 ^^^ d1) 10) &&& (rotl (x17 ^^^ d2) 15))), ((rotl (x11 ^^^ d1) 10) ^^^ (~~~(rotl (x17 ^^^ d2) 15) &&& (rotl (x23 ^^^ d3) 56))), ((rotl (x17 ^^^ d2) 15) ^^^ (~~~(rotl (x23 ^^^ d3) 56) &&& (rotl (x4 ^^^ d4) 27))), ((rotl (x23 ^^^ d3) 56) ^^^ (~~~(rotl (x4 ^^^ d4) 27) &&& (rotl (x5 ^^^ d0) 36))), ((rotl (x2 ^^^ d2) 62) ^^^ (~~~(rotl (x8 ^^^ d3) 55) &&& (rotl (x14 ^^^ d4) 39))), ((rotl (x8 ^^^ d3) 55) ^^^ (~~~(rotl (x14 ^^^ d4) 39) &&& (rotl (x15 ^^^ d0) 41))), ((rotl (x14 ^^^ d4) 39) ^^^ (~~~(rotl (x15 ^^^ d0) 41) &&& (rotl (x21 ^^^ d1) 2))), ((rotl (x15 ^^^ d0) 41) ^^^ (~~~(rotl (x21 ^^^ d1) 2) &&& (rotl (x2 ^^^ d2) 62))), ((rotl (x21 ^^^ d1) 2) ^^^ (~~~(rotl (x2 ^^^ d2) 62) &&& (rotl (x8 ^^^ d3) 55)))] := by
  subst hc0 hc1 hc2 hc3 hc4
  subst hd0 hd1 hd2 hd3 hd4
  rfl
end Go.Proofs.YthddgmnppolajaaDoor
