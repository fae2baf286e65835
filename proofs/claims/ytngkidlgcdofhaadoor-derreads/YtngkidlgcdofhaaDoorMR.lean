/-
  The reference's value at every depth.
-/
import Derived.Test.YtngkidlgcdofhaaDoorVal9Z
import Derived.Test.YtngkidlgcdofhaaDoorAnc9
import Derived.Test.YtngkidlgcdofhaaDoorDsame9
namespace Go.Proofs.YtngkidlgcdofhaaDoor
open Go.RowKit
set_option maxRecDepth 100000 in
set_option maxHeartbeats 4000000 in
theorem values_zero : Values 0 := fun w K sb cb b s en d hd h => by
  have H0 := hide h
  obtain ⟨w1, hw1⟩ : ∃ w1, w.alloc (.cells #[.int .i64 0, .int .i64 0, .bool false, .slice none 0 0, .slice none 0 0] 32) = w1 := ⟨_, rfl⟩
  have hb1 : Below w.heap.size w w1 := by rw [← hw1]; exact (Below.refl _ _).alloc (Nat.le_refl _) _
  have Hg1 : Hid (w.grownBy w1 (some K)) := by show World.grownBy _ _ _; rw [← hw1]; exact grown_alloc (World.grownBy.refl _ _) _
  have HA1 : Hid (w1.heap[w.heap.size]? = some (.cells dzero 32 (0, 0))) := by show _ = _; rw [← hw1]; exact heap_alloc_new w _
  have H1 := hide (h.below hb1)
  obtain ⟨A, hA⟩ : ∃ A, w.heap.size = A := ⟨_, rfl⟩
  obtain ⟨e1, e2, e3⟩ := rat_end (t := 32) dzero dzero h (unhide H1) (unhide Hg1) hA (by rw [← hA]; exact unhide HA1)
  have E1 := hide e1
  have E2 := hide e2
  have E3 := hide e3
  rw [hA] at HA1
  have hsz5 : (Tryd.prog.info? 32).map (·.size) = some 5 := by kernel_rfl
  have H5 : Hid ((dzero : Array Value).all (·.oneCell') = true) := by show _ = true; simp [dzero, Value.oneCell']
  have HTT : Hid (∀ w', ValueTold 0 w' w.heap.size b s en dzero.toList 23 s) := fun w' => by unfold ValueTold; exact ⟨rfl, rfl⟩
  obtain rfl : d = 17 := by omega
  clear h hb1 hd e1 e2 e3
  go_enter Tryd.func20, Tryd.ntmps20
  go_wp2_with (first | (refine wpList_store_row rfl 32 _ _ rfl A dzero rfl rfl 32 _ (unhide HA1) hsz5 rfl (unhide H5) ?_))
  exact bodyPost_ret (results_row_tmp Tryd.results20 _ _ A 32 _ (0, 0) _ rfl (unhide E3) Tryd.underlying32 rfl hsz5 (.int .i64 23) rfl) rfl ⟨dzero.toList, 23, s, rfl, unhide HTT _, Nat.le_refl _, unhide E1, unhide E2⟩
theorem values_all : ∀ f, Values f
  | 0 => values_zero
  | f + 1 => values_succ f (values_all f)
end Go.Proofs.YtngkidlgcdofhaaDoor
/-
  The walk of the reference's Read.
-/
namespace Go.Proofs.YtngkidlgcdofhaaDoor
open Go.RowKit
theorem below_grown {w wr : World} {K : Nat} (h : w.grownBy wr (some K)) (hK : w.heap.size ≤ K) : Below w.heap.size w wr := ⟨h.os, h.tape, h.output, h.size, fun i hi => h.block i hi (fun e => by have := Option.some.inj e; omega)⟩
theorem zero_val (S : Nat → Prop) (w : World) : VAt 1 S w dzero.toList (.mk 0 0 false [] []) :=
  ⟨.slice none 0 0, none, 0, rfl, bytes_nil w, fun h => absurd rfl h, ⟨Nat.zero_le _, Nat.zero_le _⟩, Nat.le_refl _, fun _ => rfl, fun h => absurd rfl h⟩
set_option maxRecDepth 100000 in
set_option maxHeartbeats 8000000 in
theorem read_ref (w : World) (x : Value) (b : Bs) (hx : BytesAt w x b) (hl : b.length ≤ 9223372036854775807) :
    Calls Tryd.prog 11 #[x] w fun e w' => ∃ cs : List Value, e = .returned (.tuple #[.agg cs.toArray, .int .i64 (errOf (readP formD b) : Int)]) ∧ ValAt (fun k => w.heap.size ≤ k) w' cs (valOf (readP formD b)) ∧ Below w.heap.size w w' := by
  obtain ⟨sp, c, rfl, _, _, _⟩ := bytes_open hx
  obtain ⟨N, hN⟩ : ∃ N, b.length = N := ⟨_, rfl⟩
  have HN := hide hN
  have HX := hide hx
  rw [hN] at hl HX ⊢
  obtain ⟨w1, hw1⟩ : ∃ w1, w.alloc (.cells #[.int .i64 0, .int .i64 0, .bool false, .slice none 0 0, .slice none 0 0] 32) = w1 := ⟨_, rfl⟩
  have hb1 : Below w.heap.size w w1 := by rw [← hw1]; exact (Below.refl _ _).alloc (Nat.le_refl _) _
  have HA1 : Hid (w1.heap[w.heap.size]? = some (.cells dzero 32 (0, 0))) := by show _ = _; rw [← hw1]; exact heap_alloc_new w _
  have Hs1 : Hid (w1.heap.size = w.heap.size + 1) := by show _ = _; rw [← hw1]; simp
  have Hb1 := hide hb1
  obtain ⟨A, hA⟩ : ∃ A, w.heap.size = A := ⟨_, rfl⟩
  have HA := hide hA
  rw [hA] at HA1 Hs1
  have hsz5 : (Tryd.prog.info? 32).map (·.size) = some 5 := by kernel_rfl
  have H5 : Hid ((dzero : Array Value).all (·.oneCell') = true) := by show _ = true; simp [dzero, Value.oneCell']
  -- an ending: the result's block is written
  have HEnd : Hid (∀ (W : World) (cs : Array Value), Below w.heap.size w W → W.heap[A]? = some (.cells dzero 32 (0, 0)) → Below w.heap.size w (W.setRow A cs) ∧ (W.setRow A cs).heap[A]? = some (.cells cs 32 (0, 0))) := fun W cs h1 h2 => ⟨h1.grown (grown_setRow W A cs) h1.size (fun g hg => by cases hg; have := unhide HA; omega), setRow_heap W A _ _ 32 (0, 0) h2⟩
  by_cases hbig : 65536 < N
  · have HT : Hid (readP formD b = .no 54) := by show _ = _; unfold readP; rw [if_pos (by have := unhide HN; omega)]
    have d1 : decide ((65536 : Int) < (N : Int)) = true := by simp; omega
    have d1n : decide (65536 < N) = true := by simp; omega
    clear hx hb1 hN
    go_enter Tryd.func11, Tryd.ntmps11
    go_wp2_with (first | (refine wpList_store_row rfl 32 _ _ rfl A dzero rfl rfl 32 _ (unhide HA1) hsz5 rfl (unhide H5) ?_))
    obtain ⟨e2, e3⟩ := unhide HEnd w1 dzero (unhide Hb1) (unhide HA1)
    refine bodyPost_ret (results_row_tmp Tryd.results11 _ _ A 32 _ (0, 0) _ rfl e3 Tryd.underlying32 rfl hsz5 (.int .i64 54) rfl) rfl ⟨dzero.toList, ?_, ?_, e2⟩
    · rw [unhide HT]; rfl
    · rw [unhide HT]; exact ⟨1, zero_val _ _⟩
  have d1 : decide ((65536 : Int) < (N : Int)) = false := by simp; omega
  have d1n : decide (65536 < N) = false := by simp; omega
  obtain ⟨w2, hw2⟩ : ∃ w2, w1.alloc (.cells #[.slice sp N c, .int .i64 0, .int .i64 (N : Int)] 52) = w2 := ⟨_, rfl⟩
  have hb2 : Below w1.heap.size w1 w2 := by rw [← hw2]; exact (Below.refl _ _).alloc (Nat.le_refl _) _
  obtain ⟨K, hK⟩ : ∃ K, w1.heap.size = K := ⟨_, rfl⟩
  have HK : Hid (K = A + 1) := by have := unhide Hs1; show _ = _; omega
  have HR2 : Hid (RAt w2 K sp c b 0 N) := by
    refine ⟨?_, (hx.below hb1).below hb2, fun hb a ha => ?_, Nat.zero_le _, by omega, by omega⟩
    · rw [hN, ← hw2, ← hK]; exact heap_alloc_new w1 _
    · have h1 := ValsAt.old hx (by simpa using hb) a.block (by rw [ha]; rfl)
      have := unhide HK
      omega
  have HA2 : Hid (w2.heap[A]? = some (.cells dzero 32 (0, 0))) := by show _ = _; rw [hb2.block A (by have := unhide HK; omega)]; exact unhide HA1
  have Hb2 := hide (hb1.trans (hb2.mono hb1.size))
  have Hc := hide (values_all 17 w2 K sp c b 0 N 0 rfl (unhide HR2))
  have HF : Hid (leftB b 0 N = b) := by show _ = _; unfold leftB; rw [List.drop_zero, List.take_of_length_le (by omega)]
  clear hx hb1 hb2 HA1 hN
  go_enter Tryd.func11, Tryd.ntmps11
  go_wp2_with fail
  refine (unhide Hc).mono ?_
  rintro e w3 ⟨cs, er, s', rfl, htold, hss, hr3, hg3⟩
  have HA3 : Hid (w3.heap[A]? = some (.cells dzero 32 (0, 0))) := by show _ = _; rw [hg3.block A (Array.getElem?_eq_some_iff.1 (unhide HA2)).1 (fun e => by have := Option.some.inj e; have := unhide HK; omega)]; exact unhide HA2
  have Hb3 : Hid (Below w.heap.size w w3) := (unhide Hb2).grown hg3 (unhide Hb2).size (fun g hg => by cases hg; have := unhide HK; have := unhide HA; omega)
  have HB2 : Hid (w.heap.size ≤ w2.heap.size) := (unhide Hb2).size
  have HA2s : Hid (A < w2.heap.size) := (Array.getElem?_eq_some_iff.1 (unhide HA2)).1
  obtain ⟨y0, y1, y2, y3⟩ := hr3.c
  have hsN := hr3.le
  have Hr3 := hide hr3
  clear Hc hr3 hg3 HA2 HR2 hw1 hw2
  unfold ValueTold at htold
  rw [unhide HF] at htold
  cases hval : valueP formD 17 b with
  | no x =>
    rw [hval] at htold
    obtain ⟨rfl, rfl⟩ := htold
    have hx0 := value_pos 17 _ _ hval
    have HT : Hid (readP formD b = .no x) := by show _ = _; unfold readP; rw [if_neg (by have := unhide HN; omega), hval]
    have g2 : ((x : Int) == 0) = false := by simp; omega
    have g2' : ((x : Int) != 0) = true := by simp; omega
    rw [show dzero.toList.toArray = #[.int .i64 0, .int .i64 0, .bool false, .slice none 0 0, .slice none 0 0] from rfl]
    have Hb4 : Hid (Below w.heap.size w (w3.alloc (.cells #[.int .i64 0, .int .i64 0, .bool false, .slice none 0 0, .slice none 0 0] 32))) := (unhide Hb3).alloc (unhide Hb3).size _
    have HA4 : Hid ((w3.alloc (.cells #[.int .i64 0, .int .i64 0, .bool false, .slice none 0 0, .slice none 0 0] 32)).heap[A]? = some (.cells dzero 32 (0, 0))) := by
      have h1 : A < w3.heap.size := (Array.getElem?_eq_some_iff.1 (unhide HA3)).1
      show _ = _
      rw [heap_alloc_old w3 _ h1]
      exact unhide HA3
    clear hval
    go_wp2_with (first | (refine wpList_store_row rfl 32 _ _ rfl A dzero rfl rfl 32 _ (unhide HA4) hsz5 rfl (unhide H5) ?_))
    obtain ⟨e2, e3⟩ := unhide HEnd _ dzero (unhide Hb4) (unhide HA4)
    refine bodyPost_ret (results_row_tmp Tryd.results11 _ _ A 32 _ (0, 0) _ rfl e3 Tryd.underlying32 rfl hsz5 (.int .i64 (x : Int)) rfl) rfl ⟨dzero.toList, ?_, ?_, e2⟩
    · rw [unhide HT]; rfl
    · rw [unhide HT]; exact ⟨1, zero_val _ _⟩
  | yes q =>
    obtain ⟨v, r⟩ := q
    rw [hval] at htold
    obtain ⟨hv3, rfl, rfl, hs0⟩ := htold
    have hread : readP formD b = if 0 < N - s' then .no 26 else .yes v := by unfold readP; rw [if_neg (by have := unhide HN; omega), hval]; simp only []; rw [len_leftB (by have := unhide HN; omega)]
    obtain ⟨p1, q1, p2, q2, rfl⟩ := hv3.form
    have HV3 := hide hv3
    have Hread := hide hread
    clear hv3 hval hread
    unfold dcells
    obtain ⟨kc, hkc⟩ : ∃ kc, v.cls = kc := ⟨_, rfl⟩
    obtain ⟨kt, hkt⟩ : ∃ kt, v.tag = kt := ⟨_, rfl⟩
    obtain ⟨km, hkm⟩ : ∃ km, v.made = km := ⟨_, rfl⟩
    obtain ⟨kl, hkl⟩ : ∃ kl, v.bytes.length = kl := ⟨_, rfl⟩
    obtain ⟨kk, hkk⟩ : ∃ kk, v.kids.length = kk := ⟨_, rfl⟩
    simp only [hkc, hkt, hkm, hkl, hkk] at HV3 ⊢
    clear hkc hkt hkm hkl hkk
    obtain ⟨w4, hw4⟩ : ∃ w4, w3.alloc (.cells #[.int .i64 kc, .int .i64 kt, .bool km, .slice p1 kl q1, .slice p2 kk q2] 32) = w4 := ⟨_, rfl⟩
    have hb4 : Below w3.heap.size w3 w4 := by rw [← hw4]; exact (Below.refl _ _).alloc (Nat.le_refl _) _
    obtain ⟨X, hX⟩ : ∃ X, w3.heap.size = X := ⟨_, rfl⟩
    have HX4 : Hid (w4.heap[X]? = some (.cells #[.int .i64 kc, .int .i64 kt, .bool km, .slice p1 kl q1, .slice p2 kk q2] 32 (0, 0))) := by show _ = _; rw [← hw4, ← hX]; exact heap_alloc_new w3 _
    have h1 : A < w3.heap.size := (Array.getElem?_eq_some_iff.1 (unhide HA3)).1
    have HA4 : Hid (w4.heap[A]? = some (.cells dzero 32 (0, 0))) := by show _ = _; rw [hb4.block A h1]; exact unhide HA3
    have Hb4 := hide ((unhide Hb3).trans (hb4.mono (unhide Hb3).size))
    obtain ⟨t0, t1, t2, t3⟩ := ((unhide Hr3).below hb4).c
    have HV4 := hide ((unhide HV3).below hb4)
    have s'b : (s' : Int) ≤ 65536 := by omega
    clear hb4 h1 HA3 y0 y1 y2 y3
    by_cases hmore : s' < N
    · have g1 : decide ((s' : Int) < (N : Int)) = true := by simp; omega
      have g1n : decide (s' < N) = true := by simp; omega
      have HT : Hid (readP formD b = .no 26) := by show _ = _; rw [unhide Hread, if_pos (by omega)]
      clear Hread HV3 HV4
      go_wp2_with (first | (refine wpList_store_row rfl 32 _ _ rfl A dzero rfl rfl 32 _ (unhide HA4) hsz5 rfl (unhide H5) ?_))
      obtain ⟨e2, e3⟩ := unhide HEnd w4 dzero (unhide Hb4) (unhide HA4)
      refine bodyPost_ret (results_row_tmp Tryd.results11 _ _ A 32 _ (0, 0) _ rfl e3 Tryd.underlying32 rfl hsz5 (.int .i64 26) rfl) rfl ⟨dzero.toList, ?_, ?_, e2⟩
      · rw [unhide HT]; rfl
      · rw [unhide HT]; exact ⟨1, zero_val _ _⟩
    · have g1 : decide ((s' : Int) < (N : Int)) = false := by simp; omega
      have g1n : decide (s' < N) = false := by simp; omega
      have HT : Hid (readP formD b = .yes v) := by show _ = _; rw [unhide Hread, if_neg (by omega)]
      have Hcs5 : Hid ((#[.int .i64 kc, .int .i64 kt, .bool km, .slice p1 kl q1, .slice p2 kk q2] : Array Value).all (·.oneCell') = true) := by show _ = true; simp [Value.oneCell']
      clear Hread
      go_wp2_with (first
        | (refine wpList_load_row rfl 32 _ rfl X rfl 32 _ (0, 0) _ (unhide HX4) Tryd.underlying32 rfl hsz5 ?_)
        | (refine wpList_store_row rfl 32 _ _ rfl A #[.int .i64 kc, .int .i64 kt, .bool km, .slice p1 kl q1, .slice p2 kk q2] rfl rfl 32 _ (unhide HA4) hsz5 rfl (unhide Hcs5) ?_))
      obtain ⟨e2, e3⟩ := unhide HEnd w4 #[.int .i64 kc, .int .i64 kt, .bool km, .slice p1 kl q1, .slice p2 kk q2] (unhide Hb4) (unhide HA4)
      refine bodyPost_ret (results_row_tmp Tryd.results11 _ _ A 32 _ (0, 0) _ rfl e3 Tryd.underlying32 rfl hsz5 (.int .i64 0) rfl) rfl ⟨dcells kc kt km (.slice p1 kl q1) (.slice p2 kk q2), ?_, ?_, e2⟩
      · rw [unhide HT]; rfl
      · rw [unhide HT]
        have h2 := (unhide HV4).kept (grown_setRow w4 A #[.int .i64 kc, .int .i64 kt, .bool km, .slice p1 kl q1, .slice p2 kk q2]) (fun g hg hs => by cases hg; have := unhide HB2; have := unhide HA; have := unhide HA2s; omega)
        exact ⟨17, h2.mono fun g hg _ => by have := unhide HB2; omega⟩
end Go.Proofs.YtngkidlgcdofhaaDoor
/-
  The walk of the statement DerReads.
-/
namespace Go.Proofs.YtngkidlgcdofhaaDoor
open Go.RowKit
set_option maxRecDepth 100000 in
set_option maxHeartbeats 4000000 in
theorem reads_true {R : World → Prop} (C : Der R) (w0 : World) (hR : R w0) (x : Value) (b : Bs) (hx : BytesAt w0 x b) (hl : b.length ≤ 9223372036854775807) :
    Calls Tryd.prog 3 #[x] w0 fun e w' => e = .returned (.bool true) ∧ Below w0.heap.size w0 w' := by
  have HC := hide C
  have HR : Hid (∀ w, Below w0.heap.size w0 w → R w) := fun w hb => C.below _ _ hR hb
  have HX : Hid (∀ w, Below w0.heap.size w0 w → BytesAt w x b) := fun w hb => hx.below hb
  have Hanc := hide (anchor_any C w0 hR)
  have Hlt := hide (read_light (form := formD) (b := b))
  have Hl := hide hl
  obtain ⟨sp, cp, rfl, _, _, _⟩ := bytes_open hx
  obtain ⟨v, hv⟩ : ∃ v, valOf (readP formD b) = v := ⟨_, rfl⟩
  obtain ⟨er, her⟩ : ∃ er, errOf (readP formD b) = er := ⟨_, rfl⟩
  have Hrd : Hid (∀ w, Below w0.heap.size w0 w → Calls Tryd.prog 10 #[.slice sp b.length cp] w fun e w' => ∃ cs : List Value, e = .returned (.tuple #[.agg cs.toArray, .int .i64 (er : Int)]) ∧ ValAt (fun k => w.heap.size ≤ k) w' cs v ∧ Below w.heap.size w w') := fun w hb => by
    have := (unhide HC).read w _ b (unhide HR w hb) (unhide HX w hb) (unhide Hl)
    rw [hv, her] at this
    exact this
  have Hrf : Hid (∀ w, Below w0.heap.size w0 w → Calls Tryd.prog 11 #[.slice sp b.length cp] w fun e w' => ∃ cs : List Value, e = .returned (.tuple #[.agg cs.toArray, .int .i64 (er : Int)]) ∧ ValAt (fun k => w.heap.size ≤ k) w' cs v ∧ Below w.heap.size w w') := fun w hb => by
    have := read_ref w _ b (unhide HX w hb) (unhide Hl)
    rw [hv, her] at this
    exact this
  rw [hv] at Hlt
  obtain ⟨N, hN⟩ : ∃ N, b.length = N := ⟨_, rfl⟩
  rw [hN] at hl ⊢
  simp only [hN] at Hrd Hrf
  clear C hR hx hv her hN HX HC HR
  go_enter Tryd.func3, Tryd.ntmps3
  go_wp2_with fail
  refine (unhide Hanc).mono ?_
  rintro e w2 ⟨rfl, hb2⟩
  have Hb2 := hide hb2
  clear hb2 Hanc
  by_cases hmid : 3000 < N ∧ N ≤ 65536
  · have d1 : decide ((3000 : Int) < (N : Int)) = true := by simp; omega
    have d1n : decide (3000 < N) = true := by simp; omega
    have d2 : decide ((N : Int) ≤ 65536) = true := by simp; omega
    have d2n : decide (N ≤ 65536) = true := by simp; omega
    go_wp2
    go_ret
    exact ⟨rfl, unhide Hb2⟩
  have Hrd2 := hide (unhide Hrd w2 (unhide Hb2))
  clear Hrd
  rcases (by omega : ¬ 3000 < N ∨ (3000 < N ∧ 65536 < N)) with hs | hs
  · have d1 : decide ((3000 : Int) < (N : Int)) = false := by simp; omega
    have d1n : decide (3000 < N) = false := by simp; omega
    go_wp2_with fail
    refine (unhide Hrd2).mono ?_
    rintro e w3 ⟨cs3, rfl, ⟨n3, hv3⟩, hb3⟩
    obtain ⟨p1, q1, p2, q2, rfl⟩ := hv3.form
    have Hv3 := hide hv3
    have Hb3 := hide ((unhide Hb2).trans (hb3.mono (unhide Hb2).size))
    unfold dcells
    obtain ⟨kc, hkc⟩ : ∃ kc, v.cls = kc := ⟨_, rfl⟩
    obtain ⟨kt, hkt⟩ : ∃ kt, v.tag = kt := ⟨_, rfl⟩
    obtain ⟨km, hkm⟩ : ∃ km, v.made = km := ⟨_, rfl⟩
    obtain ⟨kl, hkl⟩ : ∃ kl, v.bytes.length = kl := ⟨_, rfl⟩
    obtain ⟨kk, hkk⟩ : ∃ kk, v.kids.length = kk := ⟨_, rfl⟩
    simp only [hkc, hkt, hkm, hkl, hkk] at Hv3 ⊢
    have Hk : Hid (v.cls = kc ∧ v.tag = kt ∧ v.made = km ∧ v.bytes.length = kl ∧ v.kids.length = kk) := ⟨hkc, hkt, hkm, hkl, hkk⟩
    clear hkc hkt hkm hkl hkk hv3 hb3 Hrd2 hmid hs
    obtain ⟨w4, hw4⟩ : ∃ w4, w3.alloc (.cells #[.int .i64 kc, .int .i64 kt, .bool km, .slice p1 kl q1, .slice p2 kk q2] 26) = w4 := ⟨_, rfl⟩
    have hb4 : Below w3.heap.size w3 w4 := by rw [← hw4]; exact (Below.refl _ _).alloc (Nat.le_refl _) _
    have hc4 : CellsAt w4 w3.heap.size 0 (dcells kc kt km (.slice p1 kl q1) (.slice p2 kk q2)) := by rw [← hw4]; exact cells_new w3 _ 26
    obtain ⟨B, hB⟩ : ∃ B, w3.heap.size = B := ⟨_, rfl⟩
    rw [hB] at hc4
    have Hc4 := hide hc4
    have Hb4 := hide ((unhide Hb3).trans (hb4.mono (unhide Hb3).size))
    have Hv4 := hide ((unhide Hv3).below hb4)
    have Hrf2 := hide (unhide Hrf w4 (unhide Hb4))
    clear hb4 hc4 Hv3
    go_wp2_with fail
    refine (unhide Hrf2).mono ?_
    rintro e w5 ⟨cs5, rfl, ⟨n5, hv5⟩, hb5⟩
    obtain ⟨r1, t1, r2, t2, rfl⟩ := hv5.form
    have Hv5 := hide hv5
    have Hb5 := hide ((unhide Hb4).trans (hb5.mono (unhide Hb4).size))
    unfold dcells
    simp only [(unhide Hk).1, (unhide Hk).2.1, (unhide Hk).2.2.1, (unhide Hk).2.2.2.1, (unhide Hk).2.2.2.2] at Hv5 ⊢
    have Hc5 := hide ((unhide Hc4).below hb5)
    have Hv45 := hide ((unhide Hv4).below hb5)
    clear hv5 hb5 Hrf2 Hrf Hc4 Hv4 hw4
    obtain ⟨w6, hw6⟩ : ∃ w6, w5.alloc (.cells #[.int .i64 kc, .int .i64 kt, .bool km, .slice r1 kl t1, .slice r2 kk t2] 32) = w6 := ⟨_, rfl⟩
    have hb6 : Below w5.heap.size w5 w6 := by rw [← hw6]; exact (Below.refl _ _).alloc (Nat.le_refl _) _
    have hc6 : CellsAt w6 w5.heap.size 0 (dcells kc kt km (.slice r1 kl t1) (.slice r2 kk t2)) := by rw [← hw6]; exact cells_new w5 _ 32
    obtain ⟨D, hD⟩ : ∃ D, w5.heap.size = D := ⟨_, rfl⟩
    rw [hD] at hc6
    obtain ⟨a0, a1, a2, a3, a4⟩ := ((unhide Hc5).below hb6).five0
    obtain ⟨b0, b1, b2, b3, b4⟩ := hc6.five0
    have Hb6 := hide ((unhide Hb5).trans (hb6.mono (unhide Hb5).size))
    have Hsame := hide (dsame_any _ _ n3 n5 v w6 _ _ ((unhide Hv45).below hb6) ((unhide Hv5).below hb6) (by have := unhide Hlt; omega))
    unfold dcells at Hsame
    clear hb6 hc6 Hc5 Hv45 Hv5
    go_wp2_with fail
    refine (unhide Hsame).mono ?_
    rintro e w7 ⟨rfl, hb7⟩
    have Hb7 := hide ((unhide Hb6).trans (hb7.mono (unhide Hb6).size))
    clear hb7 Hsame
    go_wp2
    go_ret
    exact ⟨rfl, unhide Hb7⟩
  · have d1 : decide ((3000 : Int) < (N : Int)) = true := by simp; omega
    have d1n : decide (3000 < N) = true := by simp; omega
    have d2 : decide ((N : Int) ≤ 65536) = false := by simp; omega
    have d2n : decide (N ≤ 65536) = false := by simp; omega
    go_wp2_with fail
    refine (unhide Hrd2).mono ?_
    rintro e w3 ⟨cs3, rfl, ⟨n3, hv3⟩, hb3⟩
    obtain ⟨p1, q1, p2, q2, rfl⟩ := hv3.form
    have Hv3 := hide hv3
    have Hb3 := hide ((unhide Hb2).trans (hb3.mono (unhide Hb2).size))
    unfold dcells
    obtain ⟨kc, hkc⟩ : ∃ kc, v.cls = kc := ⟨_, rfl⟩
    obtain ⟨kt, hkt⟩ : ∃ kt, v.tag = kt := ⟨_, rfl⟩
    obtain ⟨km, hkm⟩ : ∃ km, v.made = km := ⟨_, rfl⟩
    obtain ⟨kl, hkl⟩ : ∃ kl, v.bytes.length = kl := ⟨_, rfl⟩
    obtain ⟨kk, hkk⟩ : ∃ kk, v.kids.length = kk := ⟨_, rfl⟩
    simp only [hkc, hkt, hkm, hkl, hkk] at Hv3 ⊢
    have Hk : Hid (v.cls = kc ∧ v.tag = kt ∧ v.made = km ∧ v.bytes.length = kl ∧ v.kids.length = kk) := ⟨hkc, hkt, hkm, hkl, hkk⟩
    clear hkc hkt hkm hkl hkk hv3 hb3 Hrd2 hmid hs
    obtain ⟨w4, hw4⟩ : ∃ w4, w3.alloc (.cells #[.int .i64 kc, .int .i64 kt, .bool km, .slice p1 kl q1, .slice p2 kk q2] 26) = w4 := ⟨_, rfl⟩
    have hb4 : Below w3.heap.size w3 w4 := by rw [← hw4]; exact (Below.refl _ _).alloc (Nat.le_refl _) _
    have hc4 : CellsAt w4 w3.heap.size 0 (dcells kc kt km (.slice p1 kl q1) (.slice p2 kk q2)) := by rw [← hw4]; exact cells_new w3 _ 26
    obtain ⟨B, hB⟩ : ∃ B, w3.heap.size = B := ⟨_, rfl⟩
    rw [hB] at hc4
    have Hc4 := hide hc4
    have Hb4 := hide ((unhide Hb3).trans (hb4.mono (unhide Hb3).size))
    have Hv4 := hide ((unhide Hv3).below hb4)
    have Hrf2 := hide (unhide Hrf w4 (unhide Hb4))
    clear hb4 hc4 Hv3
    go_wp2_with fail
    refine (unhide Hrf2).mono ?_
    rintro e w5 ⟨cs5, rfl, ⟨n5, hv5⟩, hb5⟩
    obtain ⟨r1, t1, r2, t2, rfl⟩ := hv5.form
    have Hv5 := hide hv5
    have Hb5 := hide ((unhide Hb4).trans (hb5.mono (unhide Hb4).size))
    unfold dcells
    simp only [(unhide Hk).1, (unhide Hk).2.1, (unhide Hk).2.2.1, (unhide Hk).2.2.2.1, (unhide Hk).2.2.2.2] at Hv5 ⊢
    have Hc5 := hide ((unhide Hc4).below hb5)
    have Hv45 := hide ((unhide Hv4).below hb5)
    clear hv5 hb5 Hrf2 Hrf Hc4 Hv4 hw4
    obtain ⟨w6, hw6⟩ : ∃ w6, w5.alloc (.cells #[.int .i64 kc, .int .i64 kt, .bool km, .slice r1 kl t1, .slice r2 kk t2] 32) = w6 := ⟨_, rfl⟩
    have hb6 : Below w5.heap.size w5 w6 := by rw [← hw6]; exact (Below.refl _ _).alloc (Nat.le_refl _) _
    have hc6 : CellsAt w6 w5.heap.size 0 (dcells kc kt km (.slice r1 kl t1) (.slice r2 kk t2)) := by rw [← hw6]; exact cells_new w5 _ 32
    obtain ⟨D, hD⟩ : ∃ D, w5.heap.size = D := ⟨_, rfl⟩
    rw [hD] at hc6
    obtain ⟨a0, a1, a2, a3, a4⟩ := ((unhide Hc5).below hb6).five0
    obtain ⟨b0, b1, b2, b3, b4⟩ := hc6.five0
    have Hb6 := hide ((unhide Hb5).trans (hb6.mono (unhide Hb5).size))
    have Hsame := hide (dsame_any _ _ n3 n5 v w6 _ _ ((unhide Hv45).below hb6) ((unhide Hv5).below hb6) (by have := unhide Hlt; omega))
    unfold dcells at Hsame
    clear hb6 hc6 Hc5 Hv45 Hv5
    go_wp2_with fail
    refine (unhide Hsame).mono ?_
    rintro e w7 ⟨rfl, hb7⟩
    have Hb7 := hide ((unhide Hb6).trans (hb7.mono (unhide Hb6).size))
    clear hb7 Hsame
    go_wp2
    go_ret
    exact ⟨rfl, unhide Hb7⟩
end Go.Proofs.YtngkidlgcdofhaaDoor
