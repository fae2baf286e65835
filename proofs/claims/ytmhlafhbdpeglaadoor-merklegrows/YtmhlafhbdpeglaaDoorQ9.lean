/-
  Plain words on SHA-256 and on rows of bytes, as the walk of the reference's Sum wants them.
  The walks of the reference's small functions: turn and K.
  What holds of the memory while the reference sums: the state's block, the table's, the padded message; and plain words on whole blocks.
  The loop of the reference that lays the sum out of the state, walked by itself: its frame a letter a slot.
  The loop of the reference that moves the eight words by one place, walked by itself.
-/
import Derived.Test.YtmhlafhbdpeglaaDoorQ1
import Derived.Test.YtmhlafhbdpeglaaDoorQ7
import Derived.Deep.MidRow
import Derived.Deep.WholeRow
import Derived.Laws.CopyOwn
import Derived.Laws.AppendOwnNone
import Derived.WalkSpells
import Derived.WalkLawsBesides
import Derived.BigQuiet
namespace Go.Proofs.YtmhlafhbdpeglaaDoor.Sha
open Go.RowKit
theorem BytesAt.cell {w : World} {x : Value} {l : List UInt8} (h : BytesAt w x l) (hl : l ≠ []) : ∃ b o c, x = .slice (some ⟨b, o, none⟩) l.length c ∧ l.length ≤ c ∧ ∀ j, j < l.length → w.cell? ⟨b, o + j, none⟩ = some (.int .u8 (ib (l.getD j 0))) := by
  obtain ⟨sp, c, rfl, h1, _, h3⟩ := h
  obtain ⟨b, o, rfl, hr⟩ := h3 hl
  exact ⟨b, o, c, rfl, h1, fun j hj => hr j _ (by simp [bv, List.getD_eq_getElem?_getD, hj])⟩
theorem BytesAt.take {w : World} {sp : Option Addr} {c : Nat} {l : List UInt8} (h : BytesAt w (.slice sp l.length c) l) (n : Nat) (hn : n ≤ l.length) : BytesAt w (.slice sp n c) (l.take n) := by
  obtain ⟨sp', c', e, h1, h2, h3⟩ := h
  cases e
  have hl : (l.take n).length = n := by rw [List.length_take]; omega
  refine ⟨sp, c, by rw [hl], by omega, h2, fun hne => ?_⟩
  obtain ⟨b, o, e, hr⟩ := h3 (by rintro rfl; simp at hne)
  refine ⟨b, o, e, fun j v hv => hr j v ?_⟩
  rw [List.map_take, List.getElem?_take] at hv
  split at hv
  · exact hv
  · cases hv
theorem BytesAt.drop {w : World} {sp : Option Addr} {c : Nat} {l : List UInt8} (h : BytesAt w (.slice sp l.length c) l) (n : Nat) (hn : n ≤ l.length) : BytesAt w (.slice (if c = n then sp else sp.map (·.add n)) (l.length - n) (c - n)) (l.drop n) := by
  obtain ⟨sp', c', e, h1, h2, h3⟩ := h
  cases e
  refine ⟨_, _, by rw [List.length_drop], by rw [List.length_drop]; omega, fun hn => ?_, fun hne => ?_⟩
  · by_cases hc : c = n
    · omega
    · rw [if_neg hc] at hn
      have := h2 (by simpa using hn); omega
  · have hlt : n < l.length := by
      rcases Nat.lt_or_ge n l.length with h | h
      · exact h
      · exact absurd (List.drop_of_length_le h) hne
    obtain ⟨b, o, rfl, hr⟩ := h3 (by rintro rfl; simp at hlt)
    rw [if_neg (by omega)]
    exact ⟨b, o + n, by simp [Addr.add_mid], range_drop hr n⟩
theorem length_shaOf (l : List UInt8) : (shaOf l).length = 32 := by
  unfold shaOf digest
  have h := (feed_ok (feed hs0 l) (padOf (feed hs0 l).told) (feed_ok hs0 l hs0_ok)).1
  have e : (feed (feed hs0 l) (padOf (feed hs0 l).told)).st.flatMap wordBytes = outTo (feed (feed hs0 l) (padOf (feed hs0 l).told)).st 8 := by
    unfold outTo; rw [List.take_of_length_le (by omega)]
  rw [e, length_outTo _ _ (by omega)]
theorem BytesAt.grown' {a b : World} {g : Nat} {x : Value} {l : List UInt8} (h : BytesAt a x l) (hg : a.grownBy b (some g)) (hne : l ≠ [] → x.ownBlock ≠ some g) : BytesAt b x l := by
  by_cases hl : l = []
  · subst hl
    obtain ⟨sp, c, e, h1, h2, _⟩ := h
    exact ⟨sp, c, e, h1, h2, fun h => absurd rfl h⟩
  · exact h.grown hg (hne hl)
end Go.Proofs.YtmhlafhbdpeglaaDoor.Sha
namespace Go.Proofs.YtmhlafhbdpeglaaDoor.Sha
open Go.RowKit
theorem turn_form (x : UInt32) (n : Nat) (h1 : 1 ≤ n) (h2 : n ≤ 31) : bits .or .u32 (iv x / 2 ^ n) (IntKind.u32.wrap (iv x * 2 ^ (32 - n))) = iv (rotr x n) := by
  have hl := shl_word x (32 - n) (by omega)
  have hr := shr_word x n (by omega)
  rw [show ((2 : Int) ^ n) = ((2 ^ n : Nat) : Int) from by simp, Int.fdiv_eq_ediv_of_nonneg _ (Int.natCast_nonneg _)] at hr
  rw [hl, show ((2 : Int) ^ n) = ((2 ^ n : Nat) : Int) from by simp, hr, iv_or]
  rfl
set_option maxHeartbeats 400000 in
theorem turn_any (x : UInt32) (n : Int) (h1 : 1 ≤ n) (h2 : n ≤ 31) (w : World) :
    Calls Tryd.prog 54 #[.int .u32 (iv x), .int .i64 n] w fun e w' => e = .returned (.int .u32 (iv (rotr x n.toNat))) ∧ w' = w.drew := by
  obtain ⟨n, rfl⟩ := Int.eq_ofNat_of_zero_le (show 0 ≤ n by omega)
  rw [Int.toNat_natCast]
  have h1' : 1 ≤ n := by omega
  have h2' : n ≤ 31 := by omega
  have q : IntKind.i64.wrap (32 - (n : Int)) = ((32 - n : Nat) : Int) := by rw [IntWalk.i64_in _ (by omega)]; omega
  have hls := fun w => run_shl_word Tryd.prog w x (32 - n) (by omega) .i64
  have hrs := fun w => run_shr_word Tryd.prog w x n (by omega) .i64
  go_enter Tryd.func54, Tryd.ntmps54
  go_wp2
  go_region_held3 (fun _ => True) (trivial) (fail)
  go_wp2
  go_ret
  exact ⟨congrArg (fun z => Ending.returned (.int .u32 z)) (turn_form x n h1' h2'), rfl⟩
theorem wpList_build_of {ops : Array Oper} {rest : List Oper} {o : Oper} {a : Act} {w : World} {Q : Exit → Act → World → Prop} (hg : o.guard = none) (t : TypeId) (parts : Array (Nat × Operand)) (ho : o.op = .build t parts) (cells : Array Value)
    (hf : Tryd.prog.built t (parts.map fun (i, x) => (i, a.eval x)).toList = some cells) (h : wpList Tryd.prog ops Q rest (a.put o.dst (.agg cells)) w) : wpList Tryd.prog ops Q (o :: rest) a w :=
  wpList_build hg t parts ho (by rw [hf]; rfl) (by rw [hf]; exact h)
theorem built_K : Tryd.prog.built 70 [(0, .int .u32 1116352408), (1, .int .u32 1899447441), (2, .int .u32 3049323471), (3, .int .u32 3921009573), (4, .int .u32 961987163), (5, .int .u32 1508970993), (6, .int .u32 2453635748), (7, .int .u32 2870763221), (8, .int .u32 3624381080), (9, .int .u32 310598401), (10, .int .u32 607225278), (11, .int .u32 1426881987), (12, .int .u32 1925078388), (13, .int .u32 2162078206), (14, .int .u32 2614888103), (15, .int .u32 3248222580), (16, .int .u32 3835390401), (17, .int .u32 4022224774), (18, .int .u32 264347078), (19, .int .u32 604807628), (20, .int .u32 770255983), (21, .int .u32 1249150122), (22, .int .u32 1555081692), (23, .int .u32 1996064986), (24, .int .u32 2554220882), (25, .int .u32 2821834349), (26, .int .u32 2952996808), (27, .int .u32 3210313671), (28, .int .u32 3336571891), (29, .int .u32 3584528711), (30, .int .u32 113926993), (31, .int .u32 338241895), (32, .int .u32 666307205), (33, .int .u32 773529912), (34, .int .u32 1294757372), (35, .int .u32 1396182291), (36, .int .u32 1695183700), (37, .int .u32 1986661051), (38, .int .u32 2177026350), (39, .int .u32 2456956037), (40, .int .u32 2730485921), (41, .int .u32 2820302411), (42, .int .u32 3259730800), (43, .int .u32 3345764771), (44, .int .u32 3516065817), (45, .int .u32 3600352804), (46, .int .u32 4094571909), (47, .int .u32 275423344), (48, .int .u32 430227734), (49, .int .u32 506948616), (50, .int .u32 659060556), (51, .int .u32 883997877), (52, .int .u32 958139571), (53, .int .u32 1322822218), (54, .int .u32 1537002063), (55, .int .u32 1747873779), (56, .int .u32 1955562222), (57, .int .u32 2024104815), (58, .int .u32 2227730452), (59, .int .u32 2361852424), (60, .int .u32 2428436474), (61, .int .u32 2756734187), (62, .int .u32 3204031479), (63, .int .u32 3329325298)] = some (kTab.map wv).toArray := by kernel_rfl
set_option maxRecDepth 100000 in
set_option maxHeartbeats 1000000 in
theorem refK_any (w : World) : Calls Tryd.prog 53 #[] w fun e w' => e = .returned (.agg (kTab.map wv).toArray) ∧ Below w.heap.size w w' := by
  have hb := built_K
  have hz : (kTab.map wv).toArray.size = 64 := rfl
  have h1 := one_words kTab
  generalize (kTab.map wv).toArray = kk at *
  have H1 := hide h1
  have Hb := hide hb
  clear h1 hb
  go_enter Tryd.func53, Tryd.ntmps53
  go_wp2_with (first | (refine wpList_build_of rfl 70 _ rfl kk (by simp [go_sem, unhide Hb]) ?_) | (refine wpList_store_row rfl 70 _ _ rfl w.heap.size kk rfl rfl 70 _ (heap_alloc_new w _) (by rw [hz]; kernel_rfl) (by rw [hz]; rfl) (unhide H1) ?_))
  refine bodyPost_ret (results_cell_row Tryd.results53 _ _ w.heap.size 70 kk (0, 0) _ rfl ?_ Tryd.underlying70 rfl (by rw [hz]; kernel_rfl)) rfl ⟨rfl, ?_⟩
  · exact setRow_heap _ _ _ _ _ _ (heap_alloc_new w _)
  · exact below_setRow ((Below.refl _ _).alloc (Nat.le_refl _) _) (Nat.le_refl _) _
end Go.Proofs.YtmhlafhbdpeglaaDoor.Sha
namespace Go.Proofs.YtmhlafhbdpeglaaDoor.Sha
open Go.RowKit
/-- The state behind so many whole blocks. -/
def stTo (M : List UInt8) : Nat → List UInt32
  | 0 => hTab
  | j + 1 => mixed (stTo M j) ((M.drop (64 * j)).take 64)
theorem length_stTo (M : List UInt8) (j : Nat) : (stTo M j).length = 8 := by
  induction j with
  | zero => rfl
  | succ j ih => exact length_mixed _ _ ih
theorem feed_blocks (M : List UInt8) (j : Nat) (h : 64 * j ≤ M.length) : (feed hs0 (M.take (64 * j))).st = stTo M j ∧ (feed hs0 (M.take (64 * j))).told = 64 * j ∧ (feed hs0 (M.take (64 * j))).last.length = 64 := by
  induction j with
  | zero => exact ⟨rfl, rfl, rfl⟩
  | succ j ih =>
    obtain ⟨h1, h2, h3⟩ := ih (by omega)
    have e : M.take (64 * (j + 1)) = M.take (64 * j) ++ (M.drop (64 * j)).take 64 := by
      rw [show 64 * (j + 1) = 64 * j + 64 from by omega, List.take_add]
    have hl : ((M.drop (64 * j)).take 64).length = 64 := by rw [List.length_take, List.length_drop]; omega
    rw [e, feed_append, feed_fill _ _ h3 (by rw [h2, hl]; omega)]
    refine ⟨?_, ?_, ?_⟩
    · show mixed _ _ = _
      rw [h1, h2, show 64 * j % 64 = 0 from by omega, List.take_zero, List.nil_append]
      rfl
    · show _ + _ = _
      rw [h2, hl]; omega
    · show List.length (_ ++ _) = 64
      rw [h2, show 64 * j % 64 = 0 from by omega, List.take_zero, List.nil_append, hl]
theorem length_padOf (n : Nat) : (n + (padOf n).length) % 64 = 0 := by
  unfold padOf padHead
  rw [List.length_append, length_bytesTo, List.length_cons, List.length_replicate]
  omega
theorem sha_blocks (l : List UInt8) : shaOf l = (stTo (l ++ padOf l.length) ((l ++ padOf l.length).length / 64)).flatMap wordBytes := by
  have ht : (feed hs0 l).told = l.length := by rw [feed_told]; exact Nat.zero_add _
  have hm : (l ++ padOf l.length).length % 64 = 0 := by rw [List.length_append]; exact length_padOf l.length
  unfold shaOf digest
  rw [ht, ← feed_append]
  have h := (feed_blocks (l ++ padOf l.length) ((l ++ padOf l.length).length / 64) (by omega)).1
  rw [show 64 * ((l ++ padOf l.length).length / 64) = (l ++ padOf l.length).length from by omega, List.take_of_length_le (Nat.le_refl _)] at h
  rw [h]
/-- The state in block Hb, the table in Kb, the padded message: what the reference leans on. -/
structure RefAt (w : World) (Hb Kb : Nat) (vM : Value) (M : List UInt8) (st : List UInt32) (wr : World) : Prop where
  h : wr.heap[Hb]? = some (.cells (st.map wv).toArray 69 (0, 0))
  k : wr.heap[Kb]? = some (.cells (kTab.map wv).toArray 70 (0, 0))
  m : BytesAt wr vM M
  bel : Below w.heap.size w wr
  hb : w.heap.size ≤ Hb
  kb : Hb < Kb
  ne : vM.ownBlock ≠ some Hb
theorem RefAt.lt {w : World} {Hb Kb : Nat} {vM : Value} {M : List UInt8} {st : List UInt32} {wr : World} (i : RefAt w Hb Kb vM M st wr) : Kb < wr.heap.size := (Array.getElem?_eq_some_iff.1 i.k).1
theorem RefAt.below {w : World} {Hb Kb : Nat} {vM : Value} {M : List UInt8} {st : List UInt32} {a b : World} (i : RefAt w Hb Kb vM M st a) (hb : Below a.heap.size a b) : RefAt w Hb Kb vM M st b := by
  have hl := i.lt
  have hk := i.kb
  exact ⟨by rw [hb.block _ (by omega)]; exact i.h, by rw [hb.block _ (by omega)]; exact i.k, i.m.below hb, i.bel.trans (hb.mono i.bel.size), i.hb, i.kb, i.ne⟩
theorem RefAt.setNew {w : World} {Hb Kb : Nat} {vM : Value} {M : List UInt8} {st : List UInt32} {a : World} {N : Nat} (i : RefAt w Hb Kb vM M st a) (hN : Kb < N) (hm : M ≠ [] → vM.ownBlock ≠ some N) (x : Addr) (hx : x.block = N) (v : Value) : RefAt w Hb Kb vM M st (a.setCell x v) := by
  have hk := i.kb
  have hh := i.hb
  refine ⟨by rw [heap_setCell_other _ _ _ _ (by omega)]; exact i.h, by rw [heap_setCell_other _ _ _ _ (by omega)]; exact i.k, ?_, i.bel.setCell (by omega) v, i.hb, i.kb, i.ne⟩
  exact i.m.grown' (grown_setCell (World.grownBy.refl a (some N)) x v (by rw [hx])) hm
theorem RefAt.setH {w : World} {Hb Kb : Nat} {vM : Value} {M : List UInt8} {st st' : List UInt32} {a : World} (i : RefAt w Hb Kb vM M st a) (j : Nat) (v : Value) (he : ((st.map wv).toArray).setIfInBounds j v = (st'.map wv).toArray) : RefAt w Hb Kb vM M st' (a.setCell ⟨Hb, j, none⟩ v) := by
  have hk := i.kb
  have hh := i.hb
  refine ⟨by rw [heap_setCell_same _ _ _ _ _ _ i.h, he], by rw [heap_setCell_other _ _ _ _ (by show Kb ≠ Hb; omega)]; exact i.k, ?_, i.bel.setCell hh v, i.hb, i.kb, i.ne⟩
  exact i.m.grown (grown_setCell (World.grownBy.refl a (some Hb)) _ v rfl) i.ne
theorem take_flat (st : List UInt32) (h8 : st.length = 8) (q r : Nat) (hq : q < 8) (hr : r < 4) : (st.flatMap wordBytes).take (4 * q + r + 1) = (st.flatMap wordBytes).take (4 * q + r) ++ [(wordBytes (st.getD q 0)).getD r 0] := by
  have hlen : (st.flatMap wordBytes).length = 32 := by
    have := length_outTo st 8 (by omega)
    unfold outTo at this
    rwa [List.take_of_length_le (by omega)] at this
  have e : st.flatMap wordBytes = outTo st q ++ (wordBytes (st.getD q 0) ++ (st.drop (q + 1)).flatMap wordBytes) := by
    have e1 : st = st.take q ++ (st.getD q 0 :: st.drop (q + 1)) := by
      have h : q < st.length := by omega
      rw [List.getD_eq_getElem?_getD, List.getElem?_eq_getElem h, Option.getD_some, ← List.drop_eq_getElem_cons h, List.take_append_drop]
    unfold outTo
    rw [← List.flatMap_cons, ← List.flatMap_append, ← e1]
  rw [List.take_succ_eq_append_getElem (by omega)]
  congr 2
  have ho := length_outTo st q (by omega)
  have hw : (wordBytes (st.getD q 0)).length = 4 := rfl
  generalize wordBytes (st.getD q 0) = wb at e hw ⊢
  rw [← Option.some.injEq, ← List.getElem?_eq_getElem, e, List.getElem?_append_right (by omega), ho, show 4 * q + r - 4 * q = r from by omega, List.getElem?_append_left (by omega), List.getD_eq_getElem?_getD, List.getElem?_eq_getElem (by omega)]
  rfl
end Go.Proofs.YtmhlafhbdpeglaaDoor.Sha
namespace Go.Proofs.YtmhlafhbdpeglaaDoor.Sha
open Go.RowKit
/-- The bodies of a text's loops, in their order. -/
def loopsOf : Code → List Code
  | .loop c => c :: loopsOf c
  | .seq a b => loopsOf a ++ loopsOf b
  | .block _ c => loopsOf c
  | .scope c => loopsOf c
  | .cond _ a b => loopsOf a ++ loopsOf b
  | _ => []
set_option maxRecDepth 1000000 in
set_option maxHeartbeats 2000000 in
theorem ref_out (st : List UInt32) (hst8 : st.length = 8) (Hb : Nat) (w : World) (hH : w.heap[Hb]? = some (.cells (st.map wv).toArray 69 (0, 0))) (Q0 : Exit → Act → World → Prop)
    (c0 c1 c2 c3 c4 c5 c7 c8 c9 c10 c11 c12 c13 c14 c15 c16 c17 c18 c19 c22 c23 c24 c25 c26 c27 c28 c29 c30 c31 c32 c33 c34 c35 c36 c37 c38 c39 c40 c41 c42 c43 c44 c45 c46 c47 c48 c49 c50 c51 c52 c53 c54 c55 c56 c57 c58 c59 c60 c61 c62 c63 c64 c65 c66 c67 c68 c69 c70 c71 c72 c73 c74 c75 c76 c77 c78 c79 c80 c81 c82 c83 c84 c85 c86 c87 c88 c89 c90 c91 c92 c93 c94 c95 c96 c97 c98 c99 c100 c101 c102 c103 c104 c105 c106 c107 c108 c109 c110 c111 c112 c113 c114 c115 c116 c117 c118 c119 c120 c121 c122 c123 c124 c125 c126 c127 c128 c129 c130 c131 c132 c133 c134 c135 c136 c137 c138 c139 c140 c141 c142 c143 c144 c145 c146 c147 c148 c149 c150 c151 c152 c153 c154 c155 c156 c157 c158 c159 c160 c161 c162 c163 c164 c165 c166 c167 c168 c169 c170 c171 c172 c173 c174 c175 c176 c177 c178 c179 c180 c181 c182 c183 c184 c185 c186 c187 c188 c189 c190 c191 c192 c193 c194 c195 c196 c197 c198 c199 c200 c201 c202 c203 c204 c205 c206 c207 c208 c209 c210 c211 c212 c213 c214 c215 c216 c217 c218 c219 c220 c221 c222 c223 c224 c225 c226 c227 c228 c229 c230 c231 c232 c233 c234 c235 c253 u236 u237 u238 u239 u240 u241 u242 u243 u244 u245 u246 u247 u248 u249 u250 u251 u252 : Value)
    (hexit : ∀ (v : Value) (u21 u236 u237 u238 u239 u240 u241 u242 u243 u244 u245 u246 u247 u248 u249 u250 u251 u252 : Value) (w' : World), OwnB w' w.heap.size v (st.flatMap wordBytes) → Below w.heap.size w w' → Q0 (.exit 14) ⟨(c0 :: c1 :: c2 :: c3 :: c4 :: c5 :: .pointer (some ⟨Hb, 0, none⟩) :: c7 :: c8 :: c9 :: c10 :: c11 :: c12 :: c13 :: c14 :: c15 :: c16 :: c17 :: c18 :: c19 :: v :: u21 :: c22 :: c23 :: c24 :: c25 :: c26 :: c27 :: c28 :: c29 :: c30 :: c31 :: c32 :: c33 :: c34 :: c35 :: c36 :: c37 :: c38 :: c39 :: c40 :: c41 :: c42 :: c43 :: c44 :: c45 :: c46 :: c47 :: c48 :: c49 :: c50 :: c51 :: c52 :: c53 :: c54 :: c55 :: c56 :: c57 :: c58 :: c59 :: c60 :: c61 :: c62 :: c63 :: c64 :: c65 :: c66 :: c67 :: c68 :: c69 :: c70 :: c71 :: c72 :: c73 :: c74 :: c75 :: c76 :: c77 :: c78 :: c79 :: c80 :: c81 :: c82 :: c83 :: c84 :: c85 :: c86 :: c87 :: c88 :: c89 :: c90 :: c91 :: c92 :: c93 :: c94 :: c95 :: c96 :: c97 :: c98 :: c99 :: c100 :: c101 :: c102 :: c103 :: c104 :: c105 :: c106 :: c107 :: c108 :: c109 :: c110 :: c111 :: c112 :: c113 :: c114 :: c115 :: c116 :: c117 :: c118 :: c119 :: c120 :: c121 :: c122 :: c123 :: c124 :: c125 :: c126 :: c127 :: c128 :: c129 :: c130 :: c131 :: c132 :: c133 :: c134 :: c135 :: c136 :: c137 :: c138 :: c139 :: c140 :: c141 :: c142 :: c143 :: c144 :: c145 :: c146 :: c147 :: c148 :: c149 :: c150 :: c151 :: c152 :: c153 :: c154 :: c155 :: c156 :: c157 :: c158 :: c159 :: c160 :: c161 :: c162 :: c163 :: c164 :: c165 :: c166 :: c167 :: c168 :: c169 :: c170 :: c171 :: c172 :: c173 :: c174 :: c175 :: c176 :: c177 :: c178 :: c179 :: c180 :: c181 :: c182 :: c183 :: c184 :: c185 :: c186 :: c187 :: c188 :: c189 :: c190 :: c191 :: c192 :: c193 :: c194 :: c195 :: c196 :: c197 :: c198 :: c199 :: c200 :: c201 :: c202 :: c203 :: c204 :: c205 :: c206 :: c207 :: c208 :: c209 :: c210 :: c211 :: c212 :: c213 :: c214 :: c215 :: c216 :: c217 :: c218 :: c219 :: c220 :: c221 :: c222 :: c223 :: c224 :: c225 :: c226 :: c227 :: c228 :: c229 :: c230 :: c231 :: c232 :: c233 :: c234 :: c235 :: u236 :: u237 :: u238 :: u239 :: u240 :: u241 :: u242 :: u243 :: u244 :: u245 :: u246 :: u247 :: u248 :: u249 :: u250 :: u251 :: u252 :: c253 :: []).toArray, []⟩ w') :
    Code.wp Tryd.prog (Code.loop ((loopsOf (Tryd.f31.body.getD .skip)).getD 7 .skip)) Q0 ⟨(c0 :: c1 :: c2 :: c3 :: c4 :: c5 :: .pointer (some ⟨Hb, 0, none⟩) :: c7 :: c8 :: c9 :: c10 :: c11 :: c12 :: c13 :: c14 :: c15 :: c16 :: c17 :: c18 :: c19 :: .slice none 0 0 :: .int .i64 0 :: c22 :: c23 :: c24 :: c25 :: c26 :: c27 :: c28 :: c29 :: c30 :: c31 :: c32 :: c33 :: c34 :: c35 :: c36 :: c37 :: c38 :: c39 :: c40 :: c41 :: c42 :: c43 :: c44 :: c45 :: c46 :: c47 :: c48 :: c49 :: c50 :: c51 :: c52 :: c53 :: c54 :: c55 :: c56 :: c57 :: c58 :: c59 :: c60 :: c61 :: c62 :: c63 :: c64 :: c65 :: c66 :: c67 :: c68 :: c69 :: c70 :: c71 :: c72 :: c73 :: c74 :: c75 :: c76 :: c77 :: c78 :: c79 :: c80 :: c81 :: c82 :: c83 :: c84 :: c85 :: c86 :: c87 :: c88 :: c89 :: c90 :: c91 :: c92 :: c93 :: c94 :: c95 :: c96 :: c97 :: c98 :: c99 :: c100 :: c101 :: c102 :: c103 :: c104 :: c105 :: c106 :: c107 :: c108 :: c109 :: c110 :: c111 :: c112 :: c113 :: c114 :: c115 :: c116 :: c117 :: c118 :: c119 :: c120 :: c121 :: c122 :: c123 :: c124 :: c125 :: c126 :: c127 :: c128 :: c129 :: c130 :: c131 :: c132 :: c133 :: c134 :: c135 :: c136 :: c137 :: c138 :: c139 :: c140 :: c141 :: c142 :: c143 :: c144 :: c145 :: c146 :: c147 :: c148 :: c149 :: c150 :: c151 :: c152 :: c153 :: c154 :: c155 :: c156 :: c157 :: c158 :: c159 :: c160 :: c161 :: c162 :: c163 :: c164 :: c165 :: c166 :: c167 :: c168 :: c169 :: c170 :: c171 :: c172 :: c173 :: c174 :: c175 :: c176 :: c177 :: c178 :: c179 :: c180 :: c181 :: c182 :: c183 :: c184 :: c185 :: c186 :: c187 :: c188 :: c189 :: c190 :: c191 :: c192 :: c193 :: c194 :: c195 :: c196 :: c197 :: c198 :: c199 :: c200 :: c201 :: c202 :: c203 :: c204 :: c205 :: c206 :: c207 :: c208 :: c209 :: c210 :: c211 :: c212 :: c213 :: c214 :: c215 :: c216 :: c217 :: c218 :: c219 :: c220 :: c221 :: c222 :: c223 :: c224 :: c225 :: c226 :: c227 :: c228 :: c229 :: c230 :: c231 :: c232 :: c233 :: c234 :: c235 :: u236 :: u237 :: u238 :: u239 :: u240 :: u241 :: u242 :: u243 :: u244 :: u245 :: u246 :: u247 :: u248 :: u249 :: u250 :: u251 :: u252 :: c253 :: []).toArray, []⟩ w := by
  have HH := hide hH
  have HE := hide hexit
  clear hH hexit
  conv => arg 2; arg 1; whnf
  go_loopw [20, 21] (fun v i wq => ∃ k : Nat, k ≤ 32 ∧ i = .int .i64 k ∧ OwnB wq w.heap.size v ((st.flatMap wordBytes).take k) ∧ Below w.heap.size w wq) (fun _ i _ => 32 - (intOf i).toNat)
  case atStart => exact ⟨0, by omega, rfl, ⟨rfl, Or.inl ⟨rfl, rfl⟩⟩, Below.refl _ _⟩
  case round =>
    obtain ⟨k, hk, rfl, hO, hB⟩ := hrel
    have hS := hB.size
    have hH2 : wr.heap[Hb]? = some (.cells (st.map wv).toArray 69 (0, 0)) := by rw [hB.block _ (Array.getElem?_eq_some_iff.1 (unhide HH)).1]; exact unhide HH
    by_cases hlt : k < 32
    · have hq8 : k / 4 < 8 := by omega
      have cH := cell_of_row _ _ (k / 4) _ 69 (0, 0) hH2
      rw [getD_map_wv st (k / 4) (by omega)] at cH
      have hkk := take_flat st hst8 (k / 4) (k % 4) hq8 (by omega)
      rw [show 4 * (k / 4) + k % 4 = k from by omega] at hkk
      generalize st.getD (k / 4) 0 = x at cH hkk
      have q1 : ((k : Int)).tdiv 4 = ((k / 4 : Nat) : Int) := by rw [Int.tdiv_eq_ediv_of_nonneg (by omega)]; omega
      have q2 : ((k : Int)).tmod 4 = ((k % 4 : Nat) : Int) := by rw [Int.tmod_eq_emod_of_nonneg (by omega)]; omega
      have q3 : (k : Int) / 4 = ((k / 4 : Nat) : Int) := by omega
      have q4 : ((k / 4 : Nat) : Int) < 8 := by omega
      have q5 : (0 : Int) ≤ ((k / 4 : Nat) : Int) := by omega
      have HO := hide hO
      have HB := hide hB
      have hln : ((st.flatMap wordBytes).take k).length + 1 ≤ 1073741824 := by rw [List.length_take]; omega
      have Hln := hide hln
      generalize hqq : k / 4 = q at *
      have v0 := out24 x
      have v1 := out16 x
      have v2 := out8 x
      have v3 := (ib_toUInt8 x).symm
      have Hkk := hide hkk
      clear hO hB hkk hH2 hln HE
      have hr4 : k % 4 = 0 ∨ k % 4 = 1 ∨ k % 4 = 2 ∨ k % 4 = 3 := by omega
      rcases hr4 with hr | hr | hr | hr
      all_goals
        have Hr := hide hr
        have Hqq := hide hqq
        clear hr hqq
      · have q2' : ((k : Int)).tmod 4 = 0 := by rw [q2, unhide Hr]; rfl
        clear q2
        have HK : Hid ((st.flatMap wordBytes).take (k + 1) = (st.flatMap wordBytes).take k ++ [(x >>> (24 : UInt32)).toUInt8]) := by
          show (st.flatMap wordBytes).take (k + 1) = _
          rw [unhide Hkk, unhide Hr]; rfl
        clear Hkk
        generalize (x >>> (24 : UInt32)).toUInt8 = B at *
        go_wp2_with (at_builtin; refine wpList_append_bytes rfl _ _ rfl w.heap.size _ _ ((st.flatMap wordBytes).take k) [B] rfl ((unhide HO).alloc _) rfl (bytes_new wr [B] 5 (by simp)) (by simp; omega) (unhide Hln) ?_; intro v' w' hO2 hg2)
        go_roundw
        case rel =>
          have hO3 : OwnB w' w.heap.size v' ((st.flatMap wordBytes).take (k + 1)) := by rw [unhide HK]; exact hO2
          have hB3 : Below w.heap.size w w' := Fresh.grown ((unhide HO).alloc _) hg2 ((unhide HB).alloc hS _) (by simp; omega)
          first
            | exact ⟨k + 1, by omega, by go_num, hO3, hB3⟩
            | ((repeat apply Exists.intro); exact ⟨⟨k + 1, by omega, by go_num, hO3, hB3⟩, rfl⟩)
        case measure => simp [intOf]; omega
      · have q2' : ((k : Int)).tmod 4 = 1 := by rw [q2, unhide Hr]; rfl
        clear q2
        have HK : Hid ((st.flatMap wordBytes).take (k + 1) = (st.flatMap wordBytes).take k ++ [(x >>> (16 : UInt32)).toUInt8]) := by
          show (st.flatMap wordBytes).take (k + 1) = _
          rw [unhide Hkk, unhide Hr]; rfl
        clear Hkk
        generalize (x >>> (16 : UInt32)).toUInt8 = B at *
        go_wp2_with (at_builtin; refine wpList_append_bytes rfl _ _ rfl w.heap.size _ _ ((st.flatMap wordBytes).take k) [B] rfl ((unhide HO).alloc _) rfl (bytes_new wr [B] 5 (by simp)) (by simp; omega) (unhide Hln) ?_; intro v' w' hO2 hg2)
        go_roundw
        case rel =>
          have hO3 : OwnB w' w.heap.size v' ((st.flatMap wordBytes).take (k + 1)) := by rw [unhide HK]; exact hO2
          have hB3 : Below w.heap.size w w' := Fresh.grown ((unhide HO).alloc _) hg2 ((unhide HB).alloc hS _) (by simp; omega)
          first
            | exact ⟨k + 1, by omega, by go_num, hO3, hB3⟩
            | ((repeat apply Exists.intro); exact ⟨⟨k + 1, by omega, by go_num, hO3, hB3⟩, rfl⟩)
        case measure => simp [intOf]; omega
      · have q2' : ((k : Int)).tmod 4 = 2 := by rw [q2, unhide Hr]; rfl
        clear q2
        have HK : Hid ((st.flatMap wordBytes).take (k + 1) = (st.flatMap wordBytes).take k ++ [(x >>> (8 : UInt32)).toUInt8]) := by
          show (st.flatMap wordBytes).take (k + 1) = _
          rw [unhide Hkk, unhide Hr]; rfl
        clear Hkk
        generalize (x >>> (8 : UInt32)).toUInt8 = B at *
        go_wp2_with (at_builtin; refine wpList_append_bytes rfl _ _ rfl w.heap.size _ _ ((st.flatMap wordBytes).take k) [B] rfl ((unhide HO).alloc _) rfl (bytes_new wr [B] 5 (by simp)) (by simp; omega) (unhide Hln) ?_; intro v' w' hO2 hg2)
        go_roundw
        case rel =>
          have hO3 : OwnB w' w.heap.size v' ((st.flatMap wordBytes).take (k + 1)) := by rw [unhide HK]; exact hO2
          have hB3 : Below w.heap.size w w' := Fresh.grown ((unhide HO).alloc _) hg2 ((unhide HB).alloc hS _) (by simp; omega)
          first
            | exact ⟨k + 1, by omega, by go_num, hO3, hB3⟩
            | ((repeat apply Exists.intro); exact ⟨⟨k + 1, by omega, by go_num, hO3, hB3⟩, rfl⟩)
        case measure => simp [intOf]; omega
      · have q2' : ((k : Int)).tmod 4 = 3 := by rw [q2, unhide Hr]; rfl
        clear q2
        have HK : Hid ((st.flatMap wordBytes).take (k + 1) = (st.flatMap wordBytes).take k ++ [x.toUInt8]) := by
          show (st.flatMap wordBytes).take (k + 1) = _
          rw [unhide Hkk, unhide Hr]; rfl
        clear Hkk
        generalize x.toUInt8 = B at *
        go_wp2_with (at_builtin; refine wpList_append_bytes rfl _ _ rfl w.heap.size _ _ ((st.flatMap wordBytes).take k) [B] rfl ((unhide HO).alloc _) rfl (bytes_new wr [B] 5 (by simp)) (by simp; omega) (unhide Hln) ?_; intro v' w' hO2 hg2)
        go_roundw
        case rel =>
          have hO3 : OwnB w' w.heap.size v' ((st.flatMap wordBytes).take (k + 1)) := by rw [unhide HK]; exact hO2
          have hB3 : Below w.heap.size w w' := Fresh.grown ((unhide HO).alloc _) hg2 ((unhide HB).alloc hS _) (by simp; omega)
          first
            | exact ⟨k + 1, by omega, by go_num, hO3, hB3⟩
            | ((repeat apply Exists.intro); exact ⟨⟨k + 1, by omega, by go_num, hO3, hB3⟩, rfl⟩)
        case measure => simp [intOf]; omega
    · obtain rfl : k = 32 := by omega
      have hlen : (st.flatMap wordBytes).length = 32 := by
        have := length_outTo st 8 (by omega)
        unfold outTo at this
        rwa [List.take_of_length_le (by omega)] at this
      rw [List.take_of_length_le (by omega)] at hO
      have HO := hide hO
      have HB := hide hB
      clear hO hB hH2 hlt hk
      go_wp2
      exact unhide HE _ _ _ _ _ _ _ _ _ _ _ _ _ _ _ _ _ _ _ _ (unhide HO) (unhide HB)
end Go.Proofs.YtmhlafhbdpeglaaDoor.Sha
namespace Go.Proofs.YtmhlafhbdpeglaaDoor.Sha
open Go.RowKit
/-- The eight words while they are moved: those behind place i have been. -/
def shTo (L : List UInt32) (i : Nat) : List UInt32 := L.take (i + 1) ++ (L.drop i).take (7 - i)
theorem shTo_seven (L : List UInt32) (h : L.length = 8) : shTo L 7 = L := by
  unfold shTo
  rw [Nat.sub_self, List.take_zero, List.append_nil, List.take_of_length_le (by omega)]
theorem shTo_cut (L : List UInt32) (h : L.length = 8) (i : Nat) (hi : i < 8) : shTo L i = L.take i ++ (L.getD i 0 :: (L.drop i).take (7 - i)) := by
  unfold shTo
  rw [List.take_succ_eq_append_getElem (by omega), List.append_assoc]
  simp [List.getD_eq_getElem?_getD, h, hi]
theorem shTo_get (L : List UInt32) (h : L.length = 8) (i : Nat) (h0 : 0 < i) (hi : i < 8) : (((shTo L i).map wv).toArray)[i - 1]? = some (.int .u32 (iv (L.getD (i - 1) 0))) := by
  rw [List.getElem?_toArray, List.getElem?_map, shTo, List.getElem?_append_left (by rw [List.length_take]; omega), List.getElem?_take, if_pos (by omega)]
  simp [List.getD_eq_getElem?_getD, wv, show i - 1 < L.length from by omega]
theorem shTo_set (L : List UInt32) (h : L.length = 8) (i : Nat) (h0 : 0 < i) (hi : i < 8) : ((shTo L i).map wv).toArray.setIfInBounds i (.int .u32 (iv (L.getD (i - 1) 0))) = ((shTo L (i - 1)).map wv).toArray := by
  rw [List.setIfInBounds_toArray]
  congr 1
  have e : Value.int .u32 (iv (L.getD (i - 1) 0)) = wv (L.getD (i - 1) 0) := rfl
  rw [e, ← List.map_set]
  congr 1
  rw [shTo_cut L h i hi, List.set_append_right _ _ (by rw [List.length_take]; omega)]
  have hz : i - (L.take i).length = 0 := by rw [List.length_take]; omega
  rw [hz, List.set_cons_zero]
  unfold shTo
  rw [show i - 1 + 1 = i from by omega]
  congr 1
  have hd : L.drop (i - 1) = L.getD (i - 1) 0 :: L.drop i := by
    have h1 : i - 1 < L.length := by omega
    rw [List.drop_eq_getElem_cons h1, show i - 1 + 1 = i from by omega]
    simp [List.getD_eq_getElem?_getD, h1]
  rw [hd, show 7 - (i - 1) = (7 - i) + 1 from by omega, List.take_succ_cons]
theorem shTo_at (L : List UInt32) (h : L.length = 8) (i : Nat) (hi : i < 8) : ∃ v, (((shTo L i).map wv).toArray)[i]? = some v := by
  have hl : (shTo L i).length = 8 := by unfold shTo; rw [List.length_append, List.length_take, List.length_take, List.length_drop]; omega
  exact ⟨_, by rw [List.getElem?_toArray, List.getElem?_eq_getElem (by rw [List.length_map]; omega)]⟩
set_option maxRecDepth 1000000 in
set_option maxHeartbeats 2000000 in
theorem ref_shift (L : List UInt32) (hL : L.length = 8) (Vb : Nat) (w : World) (hV : w.heap[Vb]? = some (.cells (L.map wv).toArray 69 (0, 0))) (Q0 : Exit → Act → World → Prop)
    (c0 c1 c2 c3 c4 c5 c6 c7 c8 c9 c10 c11 c12 c13 c15 c16 c17 c19 c20 c21 c22 c23 c24 c25 c26 c27 c28 c29 c30 c31 c32 c33 c34 c35 c36 c37 c38 c39 c40 c41 c42 c43 c44 c45 c46 c47 c48 c49 c50 c51 c52 c53 c54 c55 c56 c57 c58 c59 c60 c61 c62 c63 c64 c65 c66 c67 c68 c69 c70 c71 c72 c73 c74 c75 c76 c77 c78 c79 c80 c81 c82 c83 c84 c85 c86 c87 c88 c89 c90 c91 c92 c93 c94 c95 c96 c97 c98 c99 c100 c101 c102 c103 c104 c105 c106 c107 c108 c109 c110 c111 c112 c113 c114 c115 c116 c117 c118 c119 c120 c121 c122 c123 c124 c125 c126 c127 c128 c129 c130 c131 c132 c133 c134 c135 c136 c137 c138 c139 c140 c141 c142 c143 c144 c145 c146 c147 c148 c149 c150 c151 c152 c153 c154 c155 c156 c157 c158 c159 c160 c161 c162 c163 c164 c165 c166 c167 c168 c169 c170 c171 c172 c173 c174 c175 c176 c177 c178 c179 c180 c181 c182 c183 c184 c185 c186 c187 c188 c189 c190 c191 c192 c193 c194 c195 c196 c197 c198 c199 c200 c201 c202 c203 c204 c215 c216 c217 c218 c219 c220 c221 c222 c223 c224 c225 c226 c227 c228 c229 c230 c231 c232 c233 c234 c235 c236 c237 c238 c239 c240 c241 c242 c243 c244 c245 c246 c247 c248 c249 c250 c251 c252 c253 u205 u206 u207 u208 u209 u210 u211 u212 u213 u214 : Value)
    (hexit : ∀ (u18 u205 u206 u207 u208 u209 u210 u211 u212 u213 u214 : Value) (w' : World), w'.heap[Vb]? = some (.cells ((shTo L 0).map wv).toArray 69 (0, 0)) → w.grownBy w' (some Vb) → Q0 (.exit 10) ⟨(c0 :: c1 :: c2 :: c3 :: c4 :: c5 :: c6 :: c7 :: c8 :: c9 :: c10 :: c11 :: c12 :: c13 :: .pointer (some ⟨Vb, 0, none⟩) :: c15 :: c16 :: c17 :: u18 :: c19 :: c20 :: c21 :: c22 :: c23 :: c24 :: c25 :: c26 :: c27 :: c28 :: c29 :: c30 :: c31 :: c32 :: c33 :: c34 :: c35 :: c36 :: c37 :: c38 :: c39 :: c40 :: c41 :: c42 :: c43 :: c44 :: c45 :: c46 :: c47 :: c48 :: c49 :: c50 :: c51 :: c52 :: c53 :: c54 :: c55 :: c56 :: c57 :: c58 :: c59 :: c60 :: c61 :: c62 :: c63 :: c64 :: c65 :: c66 :: c67 :: c68 :: c69 :: c70 :: c71 :: c72 :: c73 :: c74 :: c75 :: c76 :: c77 :: c78 :: c79 :: c80 :: c81 :: c82 :: c83 :: c84 :: c85 :: c86 :: c87 :: c88 :: c89 :: c90 :: c91 :: c92 :: c93 :: c94 :: c95 :: c96 :: c97 :: c98 :: c99 :: c100 :: c101 :: c102 :: c103 :: c104 :: c105 :: c106 :: c107 :: c108 :: c109 :: c110 :: c111 :: c112 :: c113 :: c114 :: c115 :: c116 :: c117 :: c118 :: c119 :: c120 :: c121 :: c122 :: c123 :: c124 :: c125 :: c126 :: c127 :: c128 :: c129 :: c130 :: c131 :: c132 :: c133 :: c134 :: c135 :: c136 :: c137 :: c138 :: c139 :: c140 :: c141 :: c142 :: c143 :: c144 :: c145 :: c146 :: c147 :: c148 :: c149 :: c150 :: c151 :: c152 :: c153 :: c154 :: c155 :: c156 :: c157 :: c158 :: c159 :: c160 :: c161 :: c162 :: c163 :: c164 :: c165 :: c166 :: c167 :: c168 :: c169 :: c170 :: c171 :: c172 :: c173 :: c174 :: c175 :: c176 :: c177 :: c178 :: c179 :: c180 :: c181 :: c182 :: c183 :: c184 :: c185 :: c186 :: c187 :: c188 :: c189 :: c190 :: c191 :: c192 :: c193 :: c194 :: c195 :: c196 :: c197 :: c198 :: c199 :: c200 :: c201 :: c202 :: c203 :: c204 :: u205 :: u206 :: u207 :: u208 :: u209 :: u210 :: u211 :: u212 :: u213 :: u214 :: c215 :: c216 :: c217 :: c218 :: c219 :: c220 :: c221 :: c222 :: c223 :: c224 :: c225 :: c226 :: c227 :: c228 :: c229 :: c230 :: c231 :: c232 :: c233 :: c234 :: c235 :: c236 :: c237 :: c238 :: c239 :: c240 :: c241 :: c242 :: c243 :: c244 :: c245 :: c246 :: c247 :: c248 :: c249 :: c250 :: c251 :: c252 :: c253 :: []).toArray, []⟩ w') :
    Code.wp Tryd.prog (Code.loop ((loopsOf (Tryd.f31.body.getD .skip)).getD 5 .skip)) Q0 ⟨(c0 :: c1 :: c2 :: c3 :: c4 :: c5 :: c6 :: c7 :: c8 :: c9 :: c10 :: c11 :: c12 :: c13 :: .pointer (some ⟨Vb, 0, none⟩) :: c15 :: c16 :: c17 :: .int .i64 7 :: c19 :: c20 :: c21 :: c22 :: c23 :: c24 :: c25 :: c26 :: c27 :: c28 :: c29 :: c30 :: c31 :: c32 :: c33 :: c34 :: c35 :: c36 :: c37 :: c38 :: c39 :: c40 :: c41 :: c42 :: c43 :: c44 :: c45 :: c46 :: c47 :: c48 :: c49 :: c50 :: c51 :: c52 :: c53 :: c54 :: c55 :: c56 :: c57 :: c58 :: c59 :: c60 :: c61 :: c62 :: c63 :: c64 :: c65 :: c66 :: c67 :: c68 :: c69 :: c70 :: c71 :: c72 :: c73 :: c74 :: c75 :: c76 :: c77 :: c78 :: c79 :: c80 :: c81 :: c82 :: c83 :: c84 :: c85 :: c86 :: c87 :: c88 :: c89 :: c90 :: c91 :: c92 :: c93 :: c94 :: c95 :: c96 :: c97 :: c98 :: c99 :: c100 :: c101 :: c102 :: c103 :: c104 :: c105 :: c106 :: c107 :: c108 :: c109 :: c110 :: c111 :: c112 :: c113 :: c114 :: c115 :: c116 :: c117 :: c118 :: c119 :: c120 :: c121 :: c122 :: c123 :: c124 :: c125 :: c126 :: c127 :: c128 :: c129 :: c130 :: c131 :: c132 :: c133 :: c134 :: c135 :: c136 :: c137 :: c138 :: c139 :: c140 :: c141 :: c142 :: c143 :: c144 :: c145 :: c146 :: c147 :: c148 :: c149 :: c150 :: c151 :: c152 :: c153 :: c154 :: c155 :: c156 :: c157 :: c158 :: c159 :: c160 :: c161 :: c162 :: c163 :: c164 :: c165 :: c166 :: c167 :: c168 :: c169 :: c170 :: c171 :: c172 :: c173 :: c174 :: c175 :: c176 :: c177 :: c178 :: c179 :: c180 :: c181 :: c182 :: c183 :: c184 :: c185 :: c186 :: c187 :: c188 :: c189 :: c190 :: c191 :: c192 :: c193 :: c194 :: c195 :: c196 :: c197 :: c198 :: c199 :: c200 :: c201 :: c202 :: c203 :: c204 :: u205 :: u206 :: u207 :: u208 :: u209 :: u210 :: u211 :: u212 :: u213 :: u214 :: c215 :: c216 :: c217 :: c218 :: c219 :: c220 :: c221 :: c222 :: c223 :: c224 :: c225 :: c226 :: c227 :: c228 :: c229 :: c230 :: c231 :: c232 :: c233 :: c234 :: c235 :: c236 :: c237 :: c238 :: c239 :: c240 :: c241 :: c242 :: c243 :: c244 :: c245 :: c246 :: c247 :: c248 :: c249 :: c250 :: c251 :: c252 :: c253 :: []).toArray, []⟩ w := by
  have HV := hide hV
  have HE := hide hexit
  clear hV hexit
  conv => arg 2; arg 1; whnf
  go_loopw [18] (fun i wr => ∃ k : Nat, k < 8 ∧ i = .int .i64 k ∧ wr.heap[Vb]? = some (.cells ((shTo L k).map wv).toArray 69 (0, 0)) ∧ w.grownBy wr (some Vb)) (fun i _ => (intOf i).toNat)
  case atStart => exact ⟨7, by omega, rfl, by rw [shTo_seven L hL]; exact unhide HV, World.grownBy.refl _ _⟩
  case round =>
    obtain ⟨k, hk, rfl, hA, hG⟩ := hrel
    by_cases hlt : 0 < k
    · have c1 : wr.cell? ⟨Vb, k - 1, none⟩ = some (.int .u32 (iv (L.getD (k - 1) 0))) := by rw [cell_of_row _ _ _ _ 69 (0, 0) hA]; exact shTo_get L hL k hlt hk
      obtain ⟨old, hold⟩ := shTo_at L hL k hk
      have c2 : wr.cell? ⟨Vb, k, none⟩ = some old := by rw [cell_of_row _ _ _ _ 69 (0, 0) hA]; exact hold
      have f2 : wr.frozen? ⟨Vb, k, none⟩ = false := frozen_of_row _ _ k _ 69 hA
      have hS : (wr.setCell ⟨Vb, k, none⟩ (.int .u32 (iv (L.getD (k - 1) 0)))).heap[Vb]? = _ := heap_setCell_same _ _ _ _ _ _ hA
      rw [shTo_set L hL k hlt hk] at hS
      have hG2 := grown_setCell hG ⟨Vb, k, none⟩ (.int .u32 (iv (L.getD (k - 1) 0))) rfl
      generalize L.getD (k - 1) 0 = q at *
      have HS := hide hS
      have HG2 := hide hG2
      have k1 : (k : Int) < 8 := by omega
      have k0 : (0 : Int) < (k : Int) := by omega
      have k2 : (1 : Int) ≤ (k : Int) := by omega
      have k3 : (0 : Int) ≤ (k : Int) - 1 := by omega
      have k4 : (k : Int) - 1 < 8 := by omega
      have t1 : ((k : Int) - 1).toNat = k - 1 := by omega
      have w1 : IntKind.i64.wrap ((k : Int) - 1) = (k : Int) - 1 := IntWalk.i64_in _ (by omega)
      clear hA hG hS hG2 HE HV hold
      go_wp2
      go_roundw
      case rel =>
        have hi : Value.int .i64 ((k : Int) - 1) = .int .i64 ((k - 1 : Nat) : Int) := congrArg _ (by omega)
        first
          | exact ⟨k - 1, by omega, hi, unhide HS, unhide HG2⟩
          | ((repeat apply Exists.intro); exact ⟨⟨k - 1, by omega, hi, unhide HS, unhide HG2⟩, rfl⟩)
      case measure => simp [intOf]; omega
    · obtain rfl : k = 0 := by omega
      have HA := hide hA
      have HG := hide hG
      clear hA hG hlt hk
      go_wp2
      exact unhide HE _ _ _ _ _ _ _ _ _ _ _ _ (unhide HA) (unhide HG)
end Go.Proofs.YtmhlafhbdpeglaaDoor.Sha
