/-
  WalOwn, walked out of the records Plate and Wal.
-/
import Derived.Test.YtfpndphfibfdiaaQ2
import Derived.Test.YtfpndphfibfdiaaQ3
import Derived.Laws.CopyOwn
namespace Go.Proofs.Ytfpndphfibfdiaa
open Go.RowKit
theorem xor_u8 (x : UInt8) : ∃ y : UInt8, bits .xor .u8 (x.toNat : Int) 255 = (y.toNat : Int) := by
  have hx : x.toNat ^^^ 255 < 256 := Nat.xor_lt_two_pow (n := 8) (by have := x.toNat_lt; omega) (by omega)
  refine ⟨UInt8.ofNat (x.toNat ^^^ 255), ?_⟩
  have h := u8_xor_nat x.toNat 255 (by have := x.toNat_lt; omega) (by omega)
  rw [UInt8.toNat_ofNat', Nat.mod_eq_of_lt hx]
  exact h
/-- append(make([]byte, 0, C), b...), where there is room. -/
theorem made_with (w : World) (y : Value) (b : Bs) (hy : BytesAt w y b) (n C : Nat) (hn : b.length = n) (hC : n ≤ C) (hC2 : C ≤ 100000) :
    ∃ W1 W2, (Instr.makeSlice 30 (.int .i64 0) (.int .i64 (C : Int))).run Try.prog w = .ok (.slice (some ⟨w.heap.size, 0, none⟩) 0 C) W1 ∧ (∀ ty, (Builtin.append_ #[30, 30] ty #[.slice (some ⟨w.heap.size, 0, none⟩) 0 C, y]).run Try.prog W1 = .ok (.slice (some ⟨w.heap.size, 0, none⟩) n C) W2) ∧ RowAt 5 W2 w.heap.size (List.replicate (C - n) (.int .u8 0)) (b.map bv) ∧ Below w.heap.size w W2 := by
  obtain ⟨hu, ⟨i, hi, h0, hsz, hby⟩, hone, _⟩ := Eb
  have hmk := run_make (P := Try.prog) w 30 5 i _ hu hi h0 .i64 .i64 0 (C : Int) (by omega) (by omega) (by rw [hby]; omega) (by omega)
  have e1 : madeCells (Value.int IntKind.u8 0).cells ((C : Int).toNat * i.size) = (List.replicate C (Value.int .u8 0)).toArray := by
    rw [Int.toNat_natCast, hsz, Nat.mul_one]
    apply Array.ext
    · simp [madeCells]
    · intro j h1 h2
      have : (Value.int IntKind.u8 0).cells = #[Value.int IntKind.u8 0] := rfl
      simp [madeCells, this, Nat.mod_one]
  rw [e1, Int.toNat_natCast, show (0 : Int).toNat = 0 from rfl] at hmk
  have hA := heap_alloc_new w (.cells (List.replicate C (Value.int .u8 0)).toArray 5)
  have hb1 : Below w.heap.size w (w.alloc (.cells (List.replicate C (Value.int .u8 0)).toArray 5)) := (Below.refl _ _).alloc (Nat.le_refl _) _
  have hy1 := hy.below hb1
  obtain ⟨W1, hW1⟩ : ∃ x, w.alloc (.cells (List.replicate C (Value.int .u8 0)).toArray 5) = x := ⟨_, rfl⟩
  rw [hW1] at hmk hA hb1 hy1
  have hown : OwnV 5 W1 w.heap.size (.slice (some ⟨w.heap.size, 0, none⟩) 0 C) [] := ⟨rfl, Or.inr ⟨_, C, _, rfl, Nat.le_refl _, hA, Nat.zero_le _, by simp only [maxLen]; omega, by simp, rfl⟩⟩
  obtain ⟨sp, c, rfl, hc1, hc2, hc3⟩ := hy1
  cases sp with
  | none =>
    have hm : b = [] := by
      cases b with
      | nil => rfl
      | cons x r => obtain ⟨b, o, e, _⟩ := hc3 (by simp); cases e
    subst hm
    obtain rfl := hc2 rfl
    obtain rfl : n = 0 := by simpa using hn.symm
    refine ⟨W1, W1, hmk, fun ty => run_append_owned_none (P := Try.prog) W1 w.heap.size 30 ty 5 i 1 hu hi _ 0 [] hown, ?_, hb1⟩
    unfold RowAt
    simpa using hA
  | some ad =>
    have hnn : ∀ j u, (b.map bv)[j]? = some u → W1.cell? (ad.add j) = some u := by
      intro j u hu
      have hne : b.map bv ≠ [] := by intro e; rw [e] at hu; simp at hu
      obtain ⟨b', o, e, hr⟩ := hc3 hne
      cases e
      rw [Addr.add_mid]; exact hr j u hu
    refine ⟨W1, W1.setRow w.heap.size ((List.replicate C (Value.int .u8 0)).take (0 * i.size) ++ b.map bv ++ (List.replicate C (Value.int .u8 0)).drop (0 * i.size + (b.map bv).length)).toArray, hmk, fun ty => ?_, ?_, below_setRow hb1 (Nat.le_refl _) _⟩
    · have := run_append_room (P := Try.prog) W1 30 ty 5 i hu hi w.heap.size 0 C _ hA ad (b.map bv).length c (b.map bv) (by rw [hsz, Nat.mul_one]) hnn (one_bytes b) (by rw [List.length_map]; omega) (by simp; omega)
      rw [this, Nat.zero_add, List.length_map, hn]
    · unfold RowAt
      rw [setRow_heap _ _ _ _ _ _ hA]
      simp [hn]
/-- An append whose run is known. -/
theorem wpList_append_run {w W' : World} {ops : Array Oper} {rest : List Oper} {o : Oper} {a : Act} {Q : Exit → Act → World → Prop} (hgd : o.guard = none) (s x : Operand) (t : TypeId)
    (ho : o.op = .call { callee := .builtin .append, args := #[s, x], argTypes := #[t, t] }) (v y v' : Value) (hs : a.eval s = v) (hx : a.eval x = y) (hrun : ∀ ty, (Builtin.append_ #[t, t] ty #[v, y]).run Try.prog w = .ok v' W')
    (h : wpList Try.prog ops Q rest (a.put o.dst v') W') : wpList Try.prog ops Q (o :: rest) a w := by
  refine wpList_plain hgd fun _ hK => ?_
  unfold Oper.wp execOp
  simp only [ho, resolve, invoke, builtin, Sem.run_bind, Sem.run_pure, Result.andThen_ok, List.map_toArray, List.map_cons, List.map_nil, hs, hx, hrun]
  exact hK _ _ h
/-- A byte of a slice is written over. -/
theorem bytes_poke {w : World} {g o n c : Nat} {l : Bs} (h : BytesAt w (.slice (some ⟨g, o, none⟩) n c) l) (i : Nat) (hi : i < l.length) (y : UInt8) : BytesAt (w.setCell ⟨g, o + i, none⟩ (.int .u8 (y.toNat : Int))) (.slice (some ⟨g, o, none⟩) n c) (l.set i y) := by
  obtain ⟨sp, c', e, h1, h2, h3⟩ := h
  simp only [Value.slice.injEq] at e
  obtain ⟨rfl, hn, rfl⟩ := e
  refine ⟨some ⟨g, o, none⟩, c, by rw [hn]; simp, by simpa using h1, h2, fun _ => ⟨g, o, rfl, fun j v hv => ?_⟩⟩
  have hne : l.map bv ≠ [] := by intro e; have := congrArg List.length e; simp at this; subst this; simp at hi
  obtain ⟨b, o', e, hr⟩ := h3 hne
  simp only [Option.some.injEq, Addr.mk.injEq, and_true] at e
  obtain ⟨rfl, rfl⟩ := e
  rw [List.map_set, List.getElem?_set] at hv
  by_cases hij : i = j
  · subst hij
    rw [if_pos rfl, if_pos (by simpa using hi)] at hv
    have h0 := hr i (bv (l[i])) (by simp [hi])
    rw [World.cell?_setCell_same _ _ _ h0]
    exact hv
  · rw [if_neg hij] at hv
    rw [World.cell?_setCell_other _ _ _ _ (by intro e; simp only [Addr.mk.injEq, true_and, and_true] at e; omega)]
    exact hr j v hv
/-- A list of one. -/
theorem lists_one {B : Nat} {w : World} {v : Value} {vs : List Value} {b : Bs} {o : Nat} (h : ListsAt B w v vs (([] ++ [(b, o)] : List (Bs × Nat)).map (·.1))) : ∃ v0 gr ro cr s0 c0, v = .slice (some ⟨gr, ro, none⟩) 1 cr ∧ w.cell? ⟨gr, ro, none⟩ = some v0 ∧ v0 = .slice s0 b.length c0 ∧ BytesAt w (.slice s0 b.length c0) b ∧ (∀ k, (Value.slice s0 b.length c0).ownBlock = some k → B ≤ k) ∧ FreeAt w (.slice s0 b.length c0) b.length := by
  have hl := h.len
  match vs, hl with
  | [v0], _ =>
    obtain ⟨sp, c, rfl, _, _, h3⟩ := h.row
    obtain ⟨gr, ro, rfl, hc⟩ := h3 (by simp)
    obtain ⟨h4, h5, h6⟩ := h.each 0 v0 b rfl rfl
    obtain ⟨s0, c0, rfl, _⟩ := bytes_open h4
    have := hc 0 _ rfl
    rw [Nat.add_zero] at this
    exact ⟨_, gr, ro, c, s0, c0, rfl, this, rfl, h4, h5, h6⟩
theorem free_below {a b : World} {v : Value} {l : Bs} {n : Nat} (h : FreeAt a v n) (hy : BytesAt a v l) (hn : l.length = n) (hb : Below a.heap.size a b) : FreeAt b v n := fun g o c m e j hj => by
  have h1 := h g o c m e j hj
  subst e
  obtain ⟨_, _, e2, _, _, hc⟩ := bytes_open hy
  obtain ⟨g', o', e3, hlt, _⟩ := hc (by intro e; rw [e] at hn; simp at hn; omega)
  simp only [Value.slice.injEq] at e2
  rw [e3] at e2
  simp only [Option.some.injEq, Addr.mk.injEq, and_true] at e2
  have hg : g < a.heap.size := by omega
  have : b.frozen? ⟨g, o + j, none⟩ = a.frozen? ⟨g, o + j, none⟩ := by unfold World.frozen?; rw [hb.block g hg]
  rw [this]; exact h1
section
variable {PAt : Set_ → Set_ → World → Value → PS → Prop} {LAt : Set_ → Set_ → World → Value → Value → LS → Prop} (HP : Plate PAt) (HW : Wal PAt LAt)
set_option maxRecDepth 100000 in
set_option maxHeartbeats 8000000 in
include HP HW in
theorem own_true (w : World) (x : Value) (b : Bs) (hx : BytesAt w x b) : Calls Try.prog 6 #[x] w fun e w' => e = .returned (.bool true) ∧ Below w.heap.size w w' := by
  obtain ⟨sx, cx, rfl, _⟩ := bytes_open hx
  obtain ⟨n, hn⟩ : ∃ n, b.length = n := ⟨_, rfl⟩
  have HX := hide hx
  have Hanc := hide (anchor_c HP HW w)
  rw [hn] at HX ⊢
  have HN := hide hn
  by_cases hlong : 1000 < n
  · have d1 : decide (1000 < (n : Int)) = true := by simp; omega
    have d1n : decide (1000 < n) = true := by simp; omega
    have j1 : 1000 < (n : Int) := by omega
    clear hx hn
    go_enter Try.func6, Try.ntmps6
    go_wp2_with fail
    refine (unhide Hanc).mono ?_
    rintro e w1 ⟨rfl, hb⟩
    have HB := hide hb
    clear hb Hanc
    go_wp2
    go_ret
    exact ⟨rfl, unhide HB⟩
  · have d1 : decide (1000 < (n : Int)) = false := by simp; omega
    have d1n : decide (1000 < n) = false := by simp; omega
    have j1 : ¬ 1000 < (n : Int) := by omega
    clear hx hn
    obtain ⟨C, hC⟩ : ∃ C, n + 40 = C := ⟨_, rfl⟩
    have HC := hide hC
    have hwr : IntKind.i64.wrap ((n : Int) + 40) = (C : Int) := by rw [IntWalk.i64_in _ (by omega)]; omega
    obtain ⟨o1, hI0⟩ := open_new 64 0 64 1 (by omega) (by omega) (by omega) (by omega)
    have hnd : needs b.length ≤ 64 := by have := unhide HN; unfold needs; omega
    obtain ⟨a1, hI1, l1, f1⟩ := append_yes (b := b) hI0 rfl (by decide) (by have := unhide HN; omega) (by show 0 + _ ≤ 64; omega)
    have Ho1 := hide o1
    have HI0 := hide hI0
    have Ha1 := hide a1
    have Hl1 := hide l1
    have HD0 : Hid ((newS 64).down = false ∧ (newS 64).loose.length ≤ 100000 ∧ 0 + 64 ≤ (newS 64).safe.length) := ⟨rfl, by show (0 : Nat) ≤ _; omega, by show 0 + 64 ≤ (List.replicate 64 zeros).length; rw [List.length_replicate]; omega⟩
    clear o1 hI0 a1 hI1 l1 f1 hC hnd
    go_enter Try.func6, Try.ntmps6
    go_wp2_with fail
    refine (unhide Hanc).mono ?_
    rintro e w1 ⟨rfl, hb1⟩
    have HB1 := hide hb1
    have Hn : Hid (Calls Try.prog 9 #[.int .i64 64] w1 fun e w' => ∃ p, e = .returned p ∧ ∃ S R, PAt S R w' p (newS 64) ∧ (∀ k, S k ∨ R k → w1.heap.size ≤ k) ∧ Below w1.heap.size w1 w') := HP.new_yes w1 64 (by omega) (by omega)
    clear hb1 Hanc
    go_wp2_with fail
    refine (unhide Hn).mono ?_
    rintro e w2 ⟨p, rfl, S, R, hp, hge, hb⟩
    obtain ⟨pa, rfl⟩ := HP.ptr hp
    have H2 : Hid (On PAt w w2 (.pointer (some pa)) S R (newS 64)) := ⟨hp, fun k hk => Nat.le_trans (unhide HB1).size (hge k hk), (unhide HB1).trans (hb.mono (unhide HB1).size)⟩
    clear hp hge hb Hn HB1
    have Hop : Hid (Calls Try.prog 10 #[.pointer (some pa), .int .i64 0, .int .i64 64, .int .i64 1] w2 fun e w' => ∃ la, e = .returned (.tuple #[.pointer (some la), .int .i64 0]) ∧ ∃ S2 R2, Lg PAt LAt w w' (.pointer (some pa)) (.pointer (some la)) S R S2 R2 (newS 64) (openL (newS 64) 0 64 1) ∧ Below w2.heap.size w2 w' ∧ ∀ k, S2 k ∨ R2 k → w2.heap.size ≤ k) := (unhide H2).open_ HP HW 0 64 1 (by omega) (unhide HD0).2.2 (by omega) (by omega) (unhide HD0).1 (unhide HD0).2.1
    go_wp2_with fail
    refine (unhide Hop).mono ?_
    rintro e w3 ⟨la, rfl, S2, R2, h3, _, _⟩
    rw [unhide Ho1] at h3
    have H3 := hide h3
    obtain ⟨W1, W2, hmk, hap, hrow, hb4⟩ := made_with w3 _ b ((unhide HX).below h3.b) n C (unhide HN) (by have := unhide HC; omega) (by have := unhide HC; omega)
    have hx4 : BytesAt W2 (.slice (some ⟨w3.heap.size, 0, none⟩) n C) b := ⟨_, C, by rw [List.length_map, unhide HN], by rw [List.length_map, unhide HN]; have := unhide HC; omega, (by intro e; cases e), fun _ => ⟨w3.heap.size, 0, rfl, fun j v hv => by
      have hj : j < (b.map bv).length := (List.getElem?_eq_some_iff.1 hv).1
      rw [Nat.zero_add, hrow.cell j hj, ← hv, List.getD_eq_getElem?_getD, List.getElem?_eq_getElem hj]; rfl⟩⟩
    have Happ := hide (((unhide H3).below HP HW hb4).app HW _ _ hx4 (fun _ k hk => by simp only [Value.ownBlock, Option.some.injEq] at hk; exact ((unhide H3).new HP HW (by omega)).1) (by have := unhide HN; omega) fun _ => unhide HI0)
    rw [unhide Ha1, unhide Hl1] at Happ
    have HR4 := hide hrow
    have HO4 := hide ((unhide H3).off HP HW (k := w3.heap.size) (Or.inl (Nat.le_refl _)))
    have HG4 : Hid (w3.heap.size < W2.heap.size) := hrow.lt
    have HGw : Hid (w.heap.size ≤ w3.heap.size) := h3.b.size
    have Hap := hide hap
    clear h3 Hop H2 hrow hb4 hx4 hap H3
    obtain ⟨G, hG⟩ : ∃ G, w3.heap.size = G := ⟨_, rfl⟩
    rw [hG] at hmk Hap Happ HR4 HO4 HG4 HGw
    clear hG
    go_wp2_with (at_builtin; refine wpList_append_run rfl _ _ 30 rfl (.slice (some ⟨G, 0, none⟩) 0 C) (.slice sx n cx) (.slice (some ⟨G, 0, none⟩) n C) rfl rfl (unhide Hap) ?_)
    refine (unhide Happ).mono ?_
    rintro e w4 ⟨rfl, S4, R4, S5, R5, h4, ha4, hlt4⟩
    have H4 := hide h4
    have HOff := hide (hlt4 G (unhide HG4) (unhide HO4))
    have HR5 : Hid (RowAt 5 w4 G (List.replicate (C - n) (.int .u8 0)) (b.map bv)) := by
      show w4.heap[G]? = _
      rw [ha4.block G (unhide HG4) (fun h => h.elim (unhide HO4).1.1 (unhide HO4).2.1)]
      exact unhide HR4
    have HG5 : Hid (G < w4.heap.size) := Nat.lt_of_lt_of_le (unhide HG4) ha4.size
    clear h4 ha4 hlt4 Happ HR4 HO4 HG4 Hap hmk
    go_wp2
    go_loopw [44] (fun ii wr => ∃ (i : Nat) (l : Bs), i ≤ n ∧ ii = .int .i64 (i : Int) ∧ Hid (l.length = n) ∧ Hid (RowAt 5 wr G (List.replicate (C - n) (.int .u8 0)) (l.map bv)) ∧ Hid (Lg PAt LAt w wr (.pointer (some pa)) (.pointer (some la)) S4 R4 S5 R5 (appendP ⟨0, 64, 1, 1, [], false⟩ (newS 64) b) ⟨0, 64, 1, 1, [] ++ [(b, 1)], false⟩)) (fun ii _ => n - (intOf ii).toNat)
    case atStart => exact ⟨0, b, by omega, rfl, HN, HR5, H4⟩
    case round =>
      obtain ⟨i, l, hi, rfl, Hl, Hr, Hg⟩ := hrel
      clear HR5 H4
      by_cases hlt : i < n
      · have f1 : decide ((i : Int) < (n : Int)) = true := by simp; omega
        have f1n : decide (i < n) = true := by simp; omega
        have j0 : (0 : Int) ≤ (i : Int) := by omega
        have j2 : (i : Int) < (n : Int) := by omega
        have hil : i < l.length := by have := unhide Hl; omega
        have c1 : wr.cell? ⟨G, i, none⟩ = some (.int .u8 ((l.getD i 0).toNat : Int)) := by
          rw [(unhide Hr).cell i (by rw [List.length_map]; exact hil)]
          simp [bv, List.getD_eq_getElem?_getD, hil]
        have z1 := (unhide Hr).frozen i
        obtain ⟨y, hy⟩ : ∃ y : UInt8, bits .xor .u8 ((l.getD i 0).toNat : Int) 255 = (y.toNat : Int) := xor_u8 _
        have HR6 : Hid (RowAt 5 (wr.setCell ⟨G, i, none⟩ (.int .u8 (y.toNat : Int))) G (List.replicate (C - n) (.int .u8 0)) ((l.set i y).map bv)) := by
          have := (unhide Hr).set i (by rw [List.length_map]; exact hil) (.int .u8 (y.toNat : Int))
          rw [List.map_set]
          exact this
        have HL6 : Hid ((l.set i y).length = n) := by show _ = _; rw [List.length_set]; exact unhide Hl
        have HG6 := hide ((unhide Hg).kept HP HW (T := fun k => k = G) ((Aside.refl _ _).setCell ⟨G, i, none⟩ (.int .u8 (y.toNat : Int)) (Or.inr rfl)) (fun k hk => by subst hk; exact unhide HOff) fun k hk => by subst hk; exact unhide HGw)
        obtain ⟨w5, hw5⟩ : ∃ x, wr.setCell ⟨G, i, none⟩ (.int .u8 (y.toNat : Int)) = x := ⟨_, rfl⟩
        rw [hw5] at HR6 HG6
        obtain ⟨lb, hlb⟩ : ∃ x, (l.getD i 0).toNat = x := ⟨_, rfl⟩
        rw [hlb] at c1 hy
        clear hlb Hr Hg Hl hil
        go_wp2
        refine ⟨⟨i + 1, _, by omega, ?_, HL6, HR6, HG6⟩, ?_⟩
        · simp
        · simp [intOf]; omega
      · obtain rfl : i = n := by omega
        have f1 : decide ((i : Int) < (i : Int)) = false := by simp
        have Hrec := hide ((unhide Hg).recs HP HW (by simp) (by intro x hx; simp at hx; subst hx; have := unhide HN; show b.length ≤ _; omega))
        obtain ⟨KB, hKB⟩ : ∃ KB, wr.heap.size = KB := ⟨_, rfl⟩
        have HKB := hide hKB
        have HK : Hid (G < KB ∧ w.heap.size ≤ KB) := by rw [← hKB]; exact ⟨(unhide Hr).lt, (unhide Hg).b.size⟩
        have HNw : Hid (∀ k, KB ≤ k → Off S4 R4 S5 R5 k) := fun k hk => (unhide Hg).off HP HW (Or.inl (by rw [hKB]; exact hk))
        clear hKB
        clear hi hlt
        go_wp2_with fail
        refine (unhide Hrec).mono ?_
        rintro e w6 ⟨v, vs, rfl, hls, hg6, hb6⟩
        obtain ⟨v0, gr, ro, cr, s0, c0, rfl, hcr, rfl, hbs, hnw, hfr⟩ := lists_one hls
        rw [unhide HN] at hcr hbs hfr
        have HB6 := hide hbs
        rw [unhide HKB] at hnw
        have Hnw := hide hnw
        clear hnw
        have HF6 := hide hfr
        have HG6 := hide hg6
        have HR6 := hide ((unhide Hr).below hb6)
        have Hsm := hide (same_any w6 _ _ b b hbs ((unhide HX).below hg6.b) (by have := unhide HN; omega))
        rw [decide_eq_true (rfl : b = b)] at Hsm
        have HC6 := hide hcr
        have HL := hide (unhide Hl)
        clear hls hg6 hb6 hbs hfr Hrec Hr Hg Hl
        go_wp2_with fail
        refine (unhide Hsm).mono ?_
        rintro e w7 ⟨rfl, hb7⟩
        have hc7 : w7.cell? ⟨gr, ro, none⟩ = some (.slice s0 i c0) := by rw [hb7.cell (World.block_lt_of_cell? _ _ (unhide HC6))]; exact unhide HC6
        have HB7 := hide ((unhide HB6).below hb7)
        have HF7 : Hid (FreeAt w7 (.slice s0 i c0) i) := free_below (unhide HF6) (unhide HB6) (unhide HN) hb7
        have HG7 := hide ((unhide HG6).below HP HW hb7)
        have HR7 := hide ((unhide HR6).below hb7)
        have HC7 := hide hc7
        clear hb7 HB6 HF6 HG6 HR6 HC6 hcr Hsm
        go_wp2
        go_loopw [71] (fun ii wr => ∃ (j : Nat) (m : Bs), j ≤ i ∧ ii = .int .i64 (j : Int) ∧ Hid (m.length = i) ∧ Hid (BytesAt wr (.slice s0 i c0) m) ∧ Hid (FreeAt wr (.slice s0 i c0) i) ∧ Hid (wr.cell? ⟨gr, ro, none⟩ = some (.slice s0 i c0)) ∧ Hid (RowAt 5 wr G (List.replicate (C - i) (.int .u8 0)) (l.map bv)) ∧ Hid (Lg PAt LAt w wr (.pointer (some pa)) (.pointer (some la)) S4 R4 S5 R5 (appendP ⟨0, 64, 1, 1, [], false⟩ (newS 64) b) ⟨0, 64, 1, 1, [] ++ [(b, 1)], false⟩)) (fun ii _ => i - (intOf ii).toNat)
        case atStart => exact ⟨0, b, by omega, rfl, HN, HB7, HF7, HC7, HR7, HG7⟩
        case round =>
          obtain ⟨j, m, hj, rfl, Hm, Hb, Hf, Hc, Hr, Hg⟩ := hrel
          clear HB7 HF7 HC7 HR7 HG7 hc7
          by_cases hlt : j < i
          · have f1 : decide ((j : Int) < (i : Int)) = true := by simp; omega
            have f1n : decide (j < i) = true := by simp; omega
            have j0 : (0 : Int) ≤ (j : Int) := by omega
            have j2 : (j : Int) < (i : Int) := by omega
            have hjm : j < m.length := by have := unhide Hm; omega
            obtain ⟨_, _, eb, _, _, hbc⟩ := bytes_open (unhide Hb)
            obtain ⟨g0, o0, es, _, hcell⟩ := hbc (by intro e; rw [e] at hjm; simp at hjm)
            simp only [Value.slice.injEq] at eb
            obtain ⟨rfl, hmi, rfl⟩ := eb
            clear hmi
            subst es
            have c1 := hcell j hjm
            have z1 := unhide Hf g0 o0 c0 i rfl j hlt
            have cr1 := unhide Hc
            obtain ⟨y, hy⟩ : ∃ y : UInt8, bits .xor .u8 ((m.getD j 0).toNat : Int) 255 = (y.toNat : Int) := xor_u8 _
            have hg0 : KB ≤ g0 := unhide Hnw g0 rfl
            have HB8 := hide (bytes_poke (unhide Hb) j hjm y)
            have HM8 : Hid ((m.set j y).length = i) := by show _ = _; rw [List.length_set]; exact unhide Hm
            have HF8 : Hid (FreeAt (wr.setCell ⟨g0, o0 + j, none⟩ (.int .u8 (y.toNat : Int))) (.slice (some ⟨g0, o0, none⟩) i c0) i) := fun g o c n' e k hk => by rw [World.frozen?_setCell]; exact unhide Hf g o c n' e k hk
            have HC8 : Hid ((wr.setCell ⟨g0, o0 + j, none⟩ (.int .u8 (y.toNat : Int))).cell? ⟨gr, ro, none⟩ = some (.slice (some ⟨g0, o0, none⟩) i c0)) := by
              show _ = _
              rw [World.cell?_setCell_other _ _ _ _ (by intro e; rw [← e, c1] at cr1; cases cr1)]
              exact cr1
            have HR8 := hide ((unhide Hr).other ⟨g0, o0 + j, none⟩ (.int .u8 (y.toNat : Int)) (by have := (unhide HK).1; show G ≠ g0; omega))
            have HG8 := hide ((unhide Hg).kept HP HW (T := fun k => k = g0) ((Aside.refl _ _).setCell ⟨g0, o0 + j, none⟩ (.int .u8 (y.toNat : Int)) (Or.inr rfl)) (fun k hk => by subst hk; exact unhide HNw k hg0) fun k hk => by subst hk; have := (unhide HK).2; omega)
            obtain ⟨w8, hw8⟩ : ∃ x, wr.setCell ⟨g0, o0 + j, none⟩ (.int .u8 (y.toNat : Int)) = x := ⟨_, rfl⟩
            rw [hw8] at HB8 HF8 HC8 HR8 HG8
            obtain ⟨lb, hlb⟩ : ∃ x, (m.getD j 0).toNat = x := ⟨_, rfl⟩
            rw [hlb] at c1 hy
            clear hlb Hr Hg Hm Hb Hf Hc hjm hcell hbc hg0
            go_wp2
            refine ⟨⟨j + 1, _, by omega, ?_, HM8, HB8, HF8, HC8, HR8, HG8⟩, ?_⟩
            · simp
            · simp [intOf]; omega
          · obtain rfl : j = i := by omega
            have f1 : decide ((j : Int) < (j : Int)) = false := by simp
            have hjC : ¬ C = j := by have := unhide HC; omega
            have hsl : ∀ w, (Instr.sliceAt 30 (.slice (some ⟨G, 0, none⟩) j C) (some (.int .i64 (j : Int))) (some (.int .i64 (C : Int))) none).run Try.prog w = .ok (.slice (some ⟨G, j, none⟩) 40 40) w := fun w => by
              have h1 := slice_mid (some ⟨G, 0, none⟩) j C j C (by have := unhide HC; omega) (Nat.le_refl _) w
              have e : C - j = 40 := by have := unhide HC; omega
              rw [e] at h1
              unfold cutAt at h1
              rw [if_neg hjC, Option.map_some, Addr.add_mid, Nat.zero_add] at h1
              exact h1
            clear Hm Hb Hf Hc hj hlt
            go_wp2
            go_loopw [91] (fun ii wr => ∃ k : Nat, k ≤ 40 ∧ ii = .int .i64 (k : Int) ∧ Hid (RowAt 5 wr G (List.replicate (C - j) (.int .u8 0)) (l.map bv)) ∧ Hid (Lg PAt LAt w wr (.pointer (some pa)) (.pointer (some la)) S4 R4 S5 R5 (appendP ⟨0, 64, 1, 1, [], false⟩ (newS 64) b) ⟨0, 64, 1, 1, [] ++ [(b, 1)], false⟩)) (fun ii _ => 40 - (intOf ii).toNat)
            case atStart => exact ⟨0, by omega, rfl, Hr, Hg⟩
            case round =>
              obtain ⟨k, hk, rfl, Hr', Hg'⟩ := hrel
              clear Hr Hg
              by_cases hlt : k < 40
              · have f1 : decide ((k : Int) < 40) = true := by simp; omega
                have f1n : decide (k < 40) = true := by simp; omega
                have j0 : (0 : Int) ≤ (k : Int) := by omega
                have j2 : (k : Int) < 40 := by omega
                have c1 : wr.cell? ⟨G, j + k, none⟩ = some (.int .u8 0) := by
                  have h1 := unhide Hr'
                  unfold RowAt at h1
                  refine row_cell h1 (j + k) _ ?_
                  rw [List.getElem?_append_right (by rw [List.length_map, unhide HL]; omega), List.length_map, unhide HL, List.getElem?_replicate, if_pos (by have := unhide HC; omega)]
                have HR9 := Hr'
                have HG9 := Hg'
                clear Hr' Hg'
                go_wp2
                refine ⟨⟨k + 1, by omega, ?_, HR9, HG9⟩, ?_⟩
                · simp
                · simp [intOf]; omega
              · obtain rfl : k = 40 := by omega
                have Hrec := hide ((unhide Hg').recs HP HW (by simp) (by intro x hx; simp at hx; subst hx; have := unhide HN; show b.length ≤ _; omega))
                clear hk hlt
                go_wp2_with fail
                refine (unhide Hrec).mono ?_
                rintro e w9 ⟨v, vs, rfl, hls, hg9, hb9⟩
                obtain ⟨v1, gr1, ro1, cr1, s1, c1, rfl, hcr1, rfl, hbs, _, _⟩ := lists_one hls
                rw [unhide HN] at hcr1 hbs
                have Hsm := hide (same_any w9 _ _ b b hbs ((unhide HX).below hg9.b) (by have := unhide HN; omega))
                rw [decide_eq_true (rfl : b = b)] at Hsm
                have HB9 := hide hg9.b
                clear hls hg9 hb9 hbs Hrec Hr' Hg'
                go_wp2_with fail
                refine (unhide Hsm).mono ?_
                rintro e w10 ⟨rfl, hb10⟩
                have HB10 := hide ((unhide HB9).trans (hb10.mono (unhide HB9).size))
                clear hb10 Hsm HB9
                go_wp2
                go_ret
                exact ⟨rfl, unhide HB10⟩
end
end Go.Proofs.Ytfpndphfibfdiaa
