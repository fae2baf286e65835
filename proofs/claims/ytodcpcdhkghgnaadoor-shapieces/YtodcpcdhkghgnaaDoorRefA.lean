/-
  The walks of the reference's small functions: turn and K.
-/
import Derived.Test.YtodcpcdhkghgnaaDoorJoin
namespace Go.Proofs.YtodcpcdhkghgnaaDoor
open Go.RowKit
theorem turn_form (x : UInt32) (n : Nat) (h1 : 1 ≤ n) (h2 : n ≤ 31) : bits .or .u32 (iv x / 2 ^ n) (IntKind.u32.wrap (iv x * 2 ^ (32 - n))) = iv (rotr x n) := by
  have hl := shl_word x (32 - n) (by omega)
  have hr := shr_word x n (by omega)
  rw [show ((2 : Int) ^ n) = ((2 ^ n : Nat) : Int) from by simp, Int.fdiv_eq_ediv_of_nonneg _ (Int.natCast_nonneg _)] at hr
  rw [hl, show ((2 : Int) ^ n) = ((2 ^ n : Nat) : Int) from by simp, hr, iv_or]
  rfl
set_option maxHeartbeats 400000 in
theorem turn_any (x : UInt32) (n : Int) (h1 : 1 ≤ n) (h2 : n ≤ 31) (w : World) :
    Calls Tryd.prog 20 #[.int .u32 (iv x), .int .i64 n] w fun e w' => e = .returned (.int .u32 (iv (rotr x n.toNat))) ∧ w' = w.drew := by
  obtain ⟨n, rfl⟩ := Int.eq_ofNat_of_zero_le (show 0 ≤ n by omega)
  rw [Int.toNat_natCast]
  have h1' : 1 ≤ n := by omega
  have h2' : n ≤ 31 := by omega
  have q : IntKind.i64.wrap (32 - (n : Int)) = ((32 - n : Nat) : Int) := by rw [IntWalk.i64_in _ (by omega)]; omega
  have hls := fun w => run_shl_word Tryd.prog w x (32 - n) (by omega) .i64
  have hrs := fun w => run_shr_word Tryd.prog w x n (by omega) .i64
  go_enter Tryd.func20, Tryd.ntmps20
  go_wp2
  go_region_held3 (fun _ => True) (trivial) (fail)
  go_wp2
  go_ret
  exact ⟨congrArg (fun z => Ending.returned (.int .u32 z)) (turn_form x n h1' h2'), rfl⟩
theorem wpList_build_of {ops : Array Oper} {rest : List Oper} {o : Oper} {a : Act} {w : World} {Q : Exit → Act → World → Prop} (hg : o.guard = none) (t : TypeId) (parts : Array (Nat × Operand)) (ho : o.op = .build t parts) (cells : Array Value)
    (hf : Tryd.prog.built t (parts.map fun (i, x) => (i, a.eval x)).toList = some cells) (h : wpList Tryd.prog ops Q rest (a.put o.dst (.agg cells)) w) : wpList Tryd.prog ops Q (o :: rest) a w :=
  wpList_build hg t parts ho (by rw [hf]; rfl) (by rw [hf]; exact h)
theorem built_K : Tryd.prog.built 40 [(0, .int .u32 1116352408), (1, .int .u32 1899447441), (2, .int .u32 3049323471), (3, .int .u32 3921009573), (4, .int .u32 961987163), (5, .int .u32 1508970993), (6, .int .u32 2453635748), (7, .int .u32 2870763221), (8, .int .u32 3624381080), (9, .int .u32 310598401), (10, .int .u32 607225278), (11, .int .u32 1426881987), (12, .int .u32 1925078388), (13, .int .u32 2162078206), (14, .int .u32 2614888103), (15, .int .u32 3248222580), (16, .int .u32 3835390401), (17, .int .u32 4022224774), (18, .int .u32 264347078), (19, .int .u32 604807628), (20, .int .u32 770255983), (21, .int .u32 1249150122), (22, .int .u32 1555081692), (23, .int .u32 1996064986), (24, .int .u32 2554220882), (25, .int .u32 2821834349), (26, .int .u32 2952996808), (27, .int .u32 3210313671), (28, .int .u32 3336571891), (29, .int .u32 3584528711), (30, .int .u32 113926993), (31, .int .u32 338241895), (32, .int .u32 666307205), (33, .int .u32 773529912), (34, .int .u32 1294757372), (35, .int .u32 1396182291), (36, .int .u32 1695183700), (37, .int .u32 1986661051), (38, .int .u32 2177026350), (39, .int .u32 2456956037), (40, .int .u32 2730485921), (41, .int .u32 2820302411), (42, .int .u32 3259730800), (43, .int .u32 3345764771), (44, .int .u32 3516065817), (45, .int .u32 3600352804), (46, .int .u32 4094571909), (47, .int .u32 275423344), (48, .int .u32 430227734), (49, .int .u32 506948616), (50, .int .u32 659060556), (51, .int .u32 883997877), (52, .int .u32 958139571), (53, .int .u32 1322822218), (54, .int .u32 1537002063), (55, .int .u32 1747873779), (56, .int .u32 1955562222), (57, .int .u32 2024104815), (58, .int .u32 2227730452), (59, .int .u32 2361852424), (60, .int .u32 2428436474), (61, .int .u32 2756734187), (62, .int .u32 3204031479), (63, .int .u32 3329325298)] = some (kTab.map wv).toArray := by kernel_rfl
set_option maxRecDepth 100000 in
set_option maxHeartbeats 1000000 in
theorem refK_any (w : World) : Calls Tryd.prog 19 #[] w fun e w' => e = .returned (.agg (kTab.map wv).toArray) ∧ Below w.heap.size w w' := by
  have hb := built_K
  have hz : (kTab.map wv).toArray.size = 64 := rfl
  have h1 := one_words kTab
  generalize (kTab.map wv).toArray = kk at *
  have H1 := hide h1
  have Hb := hide hb
  clear h1 hb
  go_enter Tryd.func19, Tryd.ntmps19
  go_wp2_with (first | (refine wpList_build_of rfl 40 _ rfl kk (by simp [go_sem, unhide Hb]) ?_) | (refine wpList_store_row rfl 40 _ _ rfl w.heap.size kk rfl rfl 40 _ (heap_alloc_new w _) (by rw [hz]; kernel_rfl) (by rw [hz]; rfl) (unhide H1) ?_))
  refine bodyPost_ret (results_cell_row Tryd.results19 _ _ w.heap.size 40 kk (0, 0) _ rfl ?_ Tryd.underlying40 rfl (by rw [hz]; kernel_rfl)) rfl ⟨rfl, ?_⟩
  · exact setRow_heap _ _ _ _ _ _ (heap_alloc_new w _)
  · exact below_setRow ((Below.refl _ _).alloc (Nat.le_refl _) _) (Nat.le_refl _) _
end Go.Proofs.YtodcpcdhkghgnaaDoor
