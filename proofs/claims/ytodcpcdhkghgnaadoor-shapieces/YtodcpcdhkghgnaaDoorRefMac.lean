/-
  The reference's code of a message under a key, walked whole.
-/
import Derived.Test.YtodcpcdhkghgnaaDoorRefSum
namespace Go.Proofs.YtodcpcdhkghgnaaDoor
open Go.RowKit
theorem OwnB.kept {a b : World} {B : Nat} {v : Value} {l : List UInt8} {row : Option Nat} (h : OwnB a B v l) (hg : a.grownBy b row) (hne : v.ownBlock = none ∨ v.ownBlock ≠ row) : OwnB b B v l := by
  obtain ⟨h1, h2⟩ := h
  refine ⟨h1, ?_⟩
  rcases h2 with h2 | ⟨n, cap, cur, hv, hb, hh, r⟩
  · exact Or.inl h2
  · refine Or.inr ⟨n, cap, cur, hv, hb, ?_, r⟩
    rw [hg.block _ (Array.getElem?_eq_some_iff.1 hh).1 (by subst hv; rcases hne with h | h; · cases h
                                                           · exact h)]
    exact hh
theorem OwnB.below {a b : World} {B : Nat} {v : Value} {l : List UInt8} (h : OwnB a B v l) (hb : Below a.heap.size a b) : OwnB b B v l := by
  obtain ⟨h1, h2⟩ := h
  refine ⟨h1, ?_⟩
  rcases h2 with h2 | ⟨n, cap, cur, hv, hn, hh, r⟩
  · exact Or.inl h2
  · exact Or.inr ⟨n, cap, cur, hv, hn, by rw [hb.block _ (Array.getElem?_eq_some_iff.1 hh).1]; exact hh, r⟩
/-- Two rows of the call's own that begin with other bytes lie in two blocks. -/
theorem own_apart {w : World} {B C : Nat} {v u : Value} {x y : UInt8} {l m : List UInt8} (h : OwnB w B v (x :: l)) (k : OwnB w C u (y :: m)) (hne : x ≠ y) : v.ownBlock ≠ u.ownBlock := by
  obtain ⟨_, h2⟩ := h
  obtain ⟨_, k2⟩ := k
  rcases h2 with ⟨_, h2⟩ | ⟨g, cap, cur, rfl, _, hh, _, _, _, ht⟩
  · simp at h2
  rcases k2 with ⟨_, k2⟩ | ⟨g', cap', cur', rfl, _, hh', _, _, _, ht'⟩
  · simp at k2
  intro e
  have e2 : g = g' := Option.some.inj e
  subst e2
  rw [hh] at hh'
  cases hh'
  have a0 := congrArg (fun z => z[0]?) ht
  have b0 := congrArg (fun z => z[0]?) ht'
  simp at a0 b0
  rw [a0] at b0
  have b1 : bv x = bv y := Option.some.inj b0
  exact hne (ib_inj (by unfold bv at b1; exact (Value.int.inj b1).2))
theorem xor_apart (x : UInt8) : x ^^^ 54 ≠ x ^^^ 92 := fun h => by
  have h2 : x ^^^ (x ^^^ 54) = x ^^^ (x ^^^ 92) := by rw [h]
  rw [← UInt8.xor_assoc, ← UInt8.xor_assoc, UInt8.xor_self, UInt8.zero_xor, UInt8.zero_xor] at h2
  exact absurd h2 (by decide)
/-- So many bytes of a key, each xored with a mask. -/
def xTo (f : List UInt8) (m : UInt8) (k : Nat) : List UInt8 := (f.map (· ^^^ m)).take k
theorem xTo_succ (f : List UInt8) (m : UInt8) (k : Nat) (h : k < f.length) : xTo f m (k + 1) = xTo f m k ++ [f.getD k 0 ^^^ m] := by
  unfold xTo
  rw [List.take_succ_eq_append_getElem (by simpa using h)]
  simp [List.getD_eq_getElem?_getD, h]
theorem xTo_head (f : List UInt8) (m : UInt8) (k : Nat) (h : k < f.length) : ∃ r, xTo f m (k + 1) = (f.getD 0 0 ^^^ m) :: r := by
  unfold xTo
  cases f with
  | nil => simp at h
  | cons a r => exact ⟨_, rfl⟩
theorem length_xTo (f : List UInt8) (m : UInt8) (k : Nat) (h : k ≤ f.length) : (xTo f m k).length = k := by simp [xTo]; omega
theorem xTo_full (f : List UInt8) (m : UInt8) (k : Nat) (h : f.length = k) : xTo f m k = f.map (· ^^^ m) := by unfold xTo; rw [List.take_of_length_le (by simp; omega)]
/-- The two masked keys while they are made. -/
structure TwoX (B : Nat) (w : World) (f : List UInt8) (vi vo : Value) (k : Nat) (wr : World) : Prop where
  i : OwnB wr B vi (xTo f 54 k)
  o : OwnB wr B vo (xTo f 92 k)
  z : k = 0 → vi.ownBlock = none ∧ vo.ownBlock = none
  bel : Below B w wr
  sz : B ≤ wr.heap.size
theorem TwoX.apart {B : Nat} {w : World} {f : List UInt8} {vi vo : Value} {k : Nat} {wr : World} (t : TwoX B w f vi vo k wr) (hk : k ≤ f.length) : vo.ownBlock = none ∨ vo.ownBlock ≠ vi.ownBlock := by
  cases k with
  | zero => exact Or.inl (t.z rfl).2
  | succ k =>
    obtain ⟨r, e⟩ := xTo_head f 54 k hk
    obtain ⟨r', e'⟩ := xTo_head f 92 k hk
    have hi := t.i
    have ho := t.o
    rw [e] at hi
    rw [e'] at ho
    exact Or.inr fun h => own_apart hi ho (xor_apart _) h.symm
/-- What one round does. -/
theorem TwoX.step {B : Nat} {w : World} {f : List UInt8} {vi vo vi' vo' : Value} {k : Nat} {wr w3 w4 : World} {o1 o2 : Obj} (t : TwoX B w f vi vo k wr) (hk : k < f.length)
    (h3 : OwnB w3 B vi' (xTo f 54 k ++ [f.getD k 0 ^^^ 54])) (g3 : (wr.alloc o1).grownBy w3 vi.ownBlock) (h4 : OwnB w4 B vo' (xTo f 92 k ++ [f.getD k 0 ^^^ 92])) (g4 : (w3.alloc o2).grownBy w4 vo.ownBlock) :
    TwoX B w f vi' vo' (k + 1) w4 := by
  rw [← xTo_succ f 54 k hk] at h3
  rw [← xTo_succ f 92 k hk] at h4
  have ho3 : OwnB w3 B vo (xTo f 92 k) := (t.o.alloc o1).kept g3 (t.apart (by omega))
  have s3 := g3.size
  have s4 := g4.size
  have hz := t.sz
  simp at s3 s4
  have hap : vi'.ownBlock = none ∨ vi'.ownBlock ≠ vo.ownBlock := by
    cases k with
    | zero => rw [(t.z rfl).2]; exact Classical.em _
    | succ k =>
      obtain ⟨r, e⟩ := xTo_head f 54 (k + 1) hk
      obtain ⟨r', e'⟩ := xTo_head f 92 k (by omega)
      rw [e] at h3
      rw [e'] at ho3
      exact Or.inr (own_apart h3 ho3 (xor_apart _))
  refine ⟨(h3.alloc o2).kept g4 hap, h4, fun h => by omega, ?_, by omega⟩
  have b3 := (t.bel.alloc hz o1).grown g3 (by simp; omega) (fun j hj => t.i.fresh j hj)
  exact (b3.alloc (by omega) o2).grown g4 (by simp; omega) (fun j hj => t.o.fresh j hj)
set_option maxRecDepth 100000 in
set_option maxHeartbeats 2000000 in
theorem refMac_long (w : World) (sp : Option Addr) (c : Nat) (key : List UInt8) (hx : BytesAt w (.slice sp key.length c) key) (hk : key.length ≤ 1000000) (hlong : 64 < key.length) (y : Value) (l : List UInt8) (hy : BytesAt w y l) (hl : l.length ≤ 1000000) :
    Calls Tryd.prog 13 #[.slice sp key.length c, y] w fun e w' => ∃ v, e = .returned v ∧ OwnB w' w.heap.size v (macFilled (fill (shaOf key)) l) ∧ Below w.heap.size w w' := by
  have hb1 : Below w.heap.size w (w.alloc (.cells #[] 5)) := (Below.refl _ _).alloc (Nat.le_refl _) _
  have hO0 : OwnB (w.alloc (.cells #[] 5)) w.heap.size (.slice (some ⟨w.heap.size, 0, none⟩) 0 0) [] :=
    ⟨rfl, Or.inr ⟨w.heap.size, 0, #[], rfl, Nat.le_refl _, heap_alloc_new w _, Nat.le_refl _, Nat.zero_le _, rfl, rfl⟩⟩
  have Hx1 := hide (hx.below hb1)
  have HO0 := hide hO0
  have Hb1 := hide hb1
  have Hy := hide hy
  clear hb1 hO0 hx hy
  go_enter Tryd.func13, Tryd.ntmps13
  go_wp2_with (at_builtin; refine wpList_append_bytes rfl _ _ rfl w.heap.size (.slice (some ⟨w.heap.size, 0, none⟩) 0 0) (.slice sp key.length c) [] key rfl (unhide HO0) rfl (unhide Hx1) (by simp) (by simp; omega) ?_; intro v1 w1 hO1 hg1; obtain ⟨sp1, c1, rfl⟩ := hO1.form; rw [List.nil_append] at hO1 ⊢)
  have hb1 : Below w.heap.size w w1 := Fresh.grown (unhide HO0) hg1 (unhide Hb1) (by simp)
  have HO1 := hide hO1
  have HB1 := hide hb1
  clear hO1 hg1 hb1 HO0 Hb1 Hx1
  refine (refSum_any w1 sp1 c1 key (unhide HO1).bytes (by omega)).mono ?_
  rintro e w2 ⟨v2, rfl, hO2, hb2⟩
  have HO2 := hide (hO2.mono (unhide HB1).size)
  have HB2 := hide ((unhide HB1).trans (hb2.mono (unhide HB1).size))
  clear hO2 hb2 HO1 HB1
  obtain ⟨q, hq⟩ : ∃ q, shaOf key = q := ⟨_, rfl⟩
  have hql : q.length ≤ 64 := by rw [← hq, length_shaOf]; omega
  rw [hq] at HO2
  have Hq := hide hq
  clear hq
  go_wp2
  have hqz : q.length ≤ 64 := hql
  go_loopw [5] (fun v wr => ∃ j : Nat, q.length + j ≤ 64 ∧ OwnB wr w.heap.size v (q ++ List.replicate j 0) ∧ Below w.heap.size w wr) (fun v _ => 64 - lenVal v)
  case atStart => exact ⟨0, by omega, by rw [List.replicate_zero, List.append_nil]; exact unhide HO2, unhide HB2⟩
  case round =>
    obtain ⟨j, hj, hO, hB⟩ := hrel
    clear HO2 HB2
    have hlm : (q ++ List.replicate j (0 : UInt8)).length = q.length + j := by simp
    obtain ⟨sp', c', rfl⟩ := hO.form
    rw [hlm] at hO ⊢
    generalize hN : q.length + j = N at hO hlm hj ⊢
    have HN := hide hN
    have hS := hB.size
    have HO := hide hO
    have HB := hide hB
    by_cases hlt : N < 64
    · have hltI : (N : Int) < 64 := by omega
      clear hO hB hN
      go_wp2_with (at_builtin; refine wpList_append_bytes rfl _ _ rfl w.heap.size (.slice sp' N c') (.slice (some ⟨wr.heap.size, 0, none⟩) 1 1) (q ++ List.replicate j 0) [0] rfl (OwnB.alloc (unhide HO) _) rfl (bytes_new wr [0] 5 (by simp)) (by simp; omega) (by rw [hlm]; simp; omega) ?_; intro v3 w3 hO3 hg3)
      have hb3 : Below w.heap.size w w3 := Fresh.grown (OwnB.alloc (unhide HO) _) hg3 ((unhide HB).alloc hS _) (by simp; omega)
      have hO4 : OwnB w3 w.heap.size v3 (q ++ List.replicate (j + 1) 0) := by
        have e : (q ++ List.replicate j (0 : UInt8)) ++ [0] = q ++ List.replicate (j + 1) 0 := by rw [List.replicate_succ']; simp
        rw [← e]; exact hO3
      obtain ⟨sp4, c4, rfl⟩ := hO4.form
      clear hO3 hg3
      have hN2 := unhide HN
      go_roundw
      case rel =>
        first
          | exact ⟨j + 1, by omega, hO4, hb3⟩
          | ((repeat apply Exists.intro); exact ⟨⟨j + 1, by omega, hO4, hb3⟩, rfl⟩)
      case measure => (simp [lenVal]; omega)
    · obtain rfl : N = 64 := by omega
      have hfl : q ++ List.replicate j 0 = fill q := by unfold fill; rw [show 64 - q.length = j from by have := unhide HN; omega]
      rw [hfl] at HO hlm
      clear hO hB hN hfl hlt HN
      have hcl := (unhide HO).bytes.cell (by intro e; rw [e] at hlm; cases hlm)
      rw [hlm] at hcl
      obtain ⟨kb, ko, kc, hke, hkc, hcell⟩ := hcl
      cases hke
      have hold : kb < wr.heap.size := (unhide HO).bytes.old (by intro e; rw [e] at hlm; cases hlm) kb rfl
      generalize hf : fill q = f at HO hlm hcell
      have Hcell := hide hcell
      have Hf := hide hf
      clear hcell hf
      have hy2 := hide ((unhide Hy).below (unhide HB))
      obtain ⟨wm, hwm⟩ : ∃ wm, wm = wr := ⟨_, rfl⟩
      subst hwm
      go_wp2
      go_loopw [6, 7, 8] (fun vi vo i wt => ∃ k : Nat, k ≤ 64 ∧ i = .int .i64 k ∧ TwoX wm.heap.size wm f vi vo k wt) (fun _ _ i _ => 64 - (intOf i).toNat)
      case atStart => exact ⟨0, by omega, rfl, ⟨rfl, Or.inl ⟨rfl, rfl⟩⟩, ⟨rfl, Or.inl ⟨rfl, rfl⟩⟩, fun _ => ⟨rfl, rfl⟩, Below.refl _ _, Nat.le_refl _⟩
      case round =>
        obtain ⟨k, hk64, rfl, hT⟩ := hrel
        have HT := hide hT
        have hsz := hT.sz
        have hbel := hT.bel
        by_cases hlt : k < 64
        · have cK : wr.cell? ⟨kb, ko + k, none⟩ = some (.int .u8 (ib (f.getD k 0))) := by rw [hbel.cell hold]; exact unhide Hcell k hlt
          have hx1 : bits .xor .u8 (ib (f.getD k 0)) 54 = ib (f.getD k 0 ^^^ 54) := ib_xor (f.getD k 0) 54
          have hx2 : bits .xor .u8 (ib (f.getD k 0)) 92 = ib (f.getD k 0 ^^^ 92) := ib_xor (f.getD k 0) 92
          generalize hxx : f.getD k 0 = x at cK hx1 hx2
          have Hxx := hide hxx
          have hl1 : (xTo f 54 k).length = k := length_xTo f 54 k (by omega)
          have hl2 : (xTo f 92 k).length = k := length_xTo f 92 k (by omega)
          have k0 : (0 : Int) ≤ (k : Int) := by omega
          have k1 : (k : Int) < 64 := by omega
          have Hbel := hide hbel
          clear hT hxx hbel
          go_wp2_with (first
            | (at_builtin; refine wpList_append_bytes rfl _ _ rfl wm.heap.size _ (.slice (some ⟨wr.heap.size, 0, none⟩) 1 1) (xTo f 54 k) [x ^^^ 54] rfl (OwnB.alloc (unhide HT).i _) rfl (bytes_new wr [x ^^^ 54] 5 (by simp)) (by simp; omega) (by rw [hl1]; simp; omega) ?_; intro v3 w3 hO3 hg3; have cK3 := ((Below.refl wm.heap.size wr).alloc hsz _ |>.grown hg3 (by simp; omega) (fun j hj => (unhide HT).i.fresh j hj)).cell hold (p := ⟨kb, ko + k, none⟩); rw [cK] at cK3; have hs3 : wm.heap.size ≤ w3.heap.size := (by have := hg3.size; simp at this; omega); have ho3 := ((unhide HT).o.alloc _).kept hg3 ((unhide HT).apart (by omega)))
            | (at_builtin; refine wpList_append_bytes rfl _ _ rfl wm.heap.size _ (.slice (some ⟨w3.heap.size, 0, none⟩) 1 1) (xTo f 92 k) [x ^^^ 92] rfl (OwnB.alloc ho3 _) rfl (bytes_new w3 [x ^^^ 92] 5 (by simp)) (by simp; omega) (by rw [hl2]; simp; omega) ?_; intro v4 w4 hO4 hg4))
          have hxe := unhide Hxx
          subst hxe
          have T5 := (unhide HT).step (by omega) hO3 hg3 hO4 hg4
          clear hO3 hg3 hO4 hg4
          go_roundw
          case rel =>
            first
              | exact ⟨k + 1, by omega, by go_num, T5⟩
              | ((repeat apply Exists.intro); exact ⟨⟨k + 1, by omega, by go_num, T5⟩, rfl⟩)
          case measure => simp [intOf]; omega
        · obtain rfl : k = 64 := by omega
          have hap := hT.apart (by omega)
          have hi := hT.i
          have ho := hT.o
          rw [xTo_full f 54 64 hlm] at hi
          rw [xTo_full f 92 64 hlm] at ho
          have hf1 : (f.map (· ^^^ (54 : UInt8))).length = 64 := by simp [hlm]
          have hf2 : (f.map (· ^^^ (92 : UInt8))).length = 64 := by simp [hlm]
          have Hi := hide hi
          have Ho := hide ho
          have Hy3 := hide ((unhide hy2).below hbel)
          have Hbel := hide ((unhide HB).trans (hbel.mono hS))
          clear hT HT hi ho hbel
          go_wp2_with (at_builtin; refine wpList_append_bytes rfl _ _ rfl wm.heap.size _ y (f.map (· ^^^ 54)) l rfl (unhide Hi) rfl (unhide Hy3) hsz (by rw [hf1]; omega) ?_; intro v5 w5 hO5 hg5; generalize hL5 : f.map (· ^^^ 54) ++ l = L5 at hO5; obtain ⟨sp5, c5, rfl⟩ := hO5.form)
          have hs5 := hg5.size
          have hl5 : L5.length = 64 + l.length := by rw [← hL5, List.length_append, hf1]
          have HO5 := hide hO5
          have Ho5 := hide ((unhide Ho).kept hg5 hap)
          have Hb5 := hide ((unhide Hbel).grown hg5 (unhide Hbel).size (fun j hj => by have := (unhide Hi).fresh j hj; omega))
          clear hO5 hg5 Hi Ho hap Hy3 Hbel
          refine (refSum_any w5 sp5 c5 L5 (unhide HO5).bytes (by omega)).mono ?_
          rintro e w6 ⟨v6, rfl, hO6, hb6⟩
          have hs6 := hb6.size
          have B6 := hide hO6.bytes
          have Ho6 := hide ((unhide Ho5).below hb6)
          have Hb6 := hide ((unhide Hb5).trans (hb6.mono (unhide Hb5).size))
          clear hO6 hb6 HO5 Ho5 Hb5
          have hls := length_shaOf L5
          go_wp2_with (at_builtin; refine wpList_append_bytes rfl _ _ rfl wm.heap.size _ v6 (f.map (· ^^^ 92)) (shaOf L5) rfl (unhide Ho6) rfl (unhide B6) (by omega) (by rw [hf2, hls]; omega) ?_; intro v7 w7 hO7 hg7; generalize hL7 : f.map (· ^^^ 92) ++ shaOf L5 = L7 at hO7; obtain ⟨sp7, c7, rfl⟩ := hO7.form)
          have HO7 := hide hO7
          have hl7 : L7.length = 96 := by rw [← hL7, List.length_append, hf2, hls]
          have Hb7 := hide ((unhide Hb6).grown hg7 (unhide Hb6).size (fun j hj => by have := (unhide Ho6).fresh j hj; omega))
          clear hO7 hg7 Ho6 Hb6 B6
          refine (refSum_any w7 sp7 c7 L7 (unhide HO7).bytes (by omega)).mono ?_
          rintro e w8 ⟨v8, rfl, hO8, hb8⟩
          have HO8 := hide (hO8.mono (unhide Hb7).size)
          have Hb8 := hide ((unhide Hb7).trans (hb8.mono (unhide Hb7).size))
          clear hO8 hb8 HO7 Hb7
          go_wp2_with fail
          go_ret
          have hfin : macFilled (fill (shaOf key)) l = shaOf L7 := by rw [unhide Hq, unhide Hf, ← hL7, ← hL5]; rfl
          rw [hfin]
          exact ⟨_, rfl, unhide HO8, unhide Hb8⟩
set_option maxRecDepth 100000 in
set_option maxHeartbeats 2000000 in
theorem refMac_short (w : World) (sp : Option Addr) (c : Nat) (key : List UInt8) (hx : BytesAt w (.slice sp key.length c) key) (hk : key.length ≤ 1000000) (hlong : ¬ 64 < key.length) (y : Value) (l : List UInt8) (hy : BytesAt w y l) (hl : l.length ≤ 1000000) :
    Calls Tryd.prog 13 #[.slice sp key.length c, y] w fun e w' => ∃ v, e = .returned v ∧ OwnB w' w.heap.size v (macFilled (fill (key)) l) ∧ Below w.heap.size w w' := by
  have hb1 : Below w.heap.size w (w.alloc (.cells #[] 5)) := (Below.refl _ _).alloc (Nat.le_refl _) _
  have hO0 : OwnB (w.alloc (.cells #[] 5)) w.heap.size (.slice (some ⟨w.heap.size, 0, none⟩) 0 0) [] :=
    ⟨rfl, Or.inr ⟨w.heap.size, 0, #[], rfl, Nat.le_refl _, heap_alloc_new w _, Nat.le_refl _, Nat.zero_le _, rfl, rfl⟩⟩
  have Hx1 := hide (hx.below hb1)
  have HO0 := hide hO0
  have Hb1 := hide hb1
  have Hy := hide hy
  clear hb1 hO0 hx hy
  go_enter Tryd.func13, Tryd.ntmps13
  go_wp2_with (at_builtin; refine wpList_append_bytes rfl _ _ rfl w.heap.size (.slice (some ⟨w.heap.size, 0, none⟩) 0 0) (.slice sp key.length c) [] key rfl (unhide HO0) rfl (unhide Hx1) (by simp) (by simp; omega) ?_; intro v1 w1 hO1 hg1; obtain ⟨sp1, c1, rfl⟩ := hO1.form; rw [List.nil_append] at hO1 ⊢)
  have hb1 : Below w.heap.size w w1 := Fresh.grown (unhide HO0) hg1 (unhide Hb1) (by simp)
  have HO1 := hide hO1
  have HB1 := hide hb1
  clear hO1 hg1 hb1 HO0 Hb1 Hx1
  have HO2 : Hid (OwnB w1 w.heap.size (.slice sp1 key.length c1) key) := HO1
  have HB2 := HB1
  clear HO1 HB1
  obtain ⟨q, hq⟩ : ∃ q, key = q := ⟨_, rfl⟩
  have hql : q.length ≤ 64 := by rw [← hq]; omega
  rw [hq] at HO2
  have Hq := hide hq
  clear hq
  go_wp2
  have hqz : q.length ≤ 64 := hql
  go_loopw [5] (fun v wr => ∃ j : Nat, q.length + j ≤ 64 ∧ OwnB wr w.heap.size v (q ++ List.replicate j 0) ∧ Below w.heap.size w wr) (fun v _ => 64 - lenVal v)
  case atStart =>
    have hq := unhide Hq
    subst hq
    exact ⟨0, by omega, by rw [List.replicate_zero, List.append_nil]; exact unhide HO2, unhide HB2⟩
  case round =>
    obtain ⟨j, hj, hO, hB⟩ := hrel
    clear HO2 HB2
    have hlm : (q ++ List.replicate j (0 : UInt8)).length = q.length + j := by simp
    obtain ⟨sp', c', rfl⟩ := hO.form
    rw [hlm] at hO ⊢
    generalize hN : q.length + j = N at hO hlm hj ⊢
    have HN := hide hN
    have hS := hB.size
    have HO := hide hO
    have HB := hide hB
    by_cases hlt : N < 64
    · have hltI : (N : Int) < 64 := by omega
      clear hO hB hN
      go_wp2_with (at_builtin; refine wpList_append_bytes rfl _ _ rfl w.heap.size (.slice sp' N c') (.slice (some ⟨wr.heap.size, 0, none⟩) 1 1) (q ++ List.replicate j 0) [0] rfl (OwnB.alloc (unhide HO) _) rfl (bytes_new wr [0] 5 (by simp)) (by simp; omega) (by rw [hlm]; simp; omega) ?_; intro v3 w3 hO3 hg3)
      have hb3 : Below w.heap.size w w3 := Fresh.grown (OwnB.alloc (unhide HO) _) hg3 ((unhide HB).alloc hS _) (by simp; omega)
      have hO4 : OwnB w3 w.heap.size v3 (q ++ List.replicate (j + 1) 0) := by
        have e : (q ++ List.replicate j (0 : UInt8)) ++ [0] = q ++ List.replicate (j + 1) 0 := by rw [List.replicate_succ']; simp
        rw [← e]; exact hO3
      obtain ⟨sp4, c4, rfl⟩ := hO4.form
      clear hO3 hg3
      have hN2 := unhide HN
      go_roundw
      case rel =>
        first
          | exact ⟨j + 1, by omega, hO4, hb3⟩
          | ((repeat apply Exists.intro); exact ⟨⟨j + 1, by omega, hO4, hb3⟩, rfl⟩)
      case measure => (simp [lenVal]; omega)
    · obtain rfl : N = 64 := by omega
      have hfl : q ++ List.replicate j 0 = fill q := by unfold fill; rw [show 64 - q.length = j from by have := unhide HN; omega]
      rw [hfl] at HO hlm
      clear hO hB hN hfl hlt HN
      have hcl := (unhide HO).bytes.cell (by intro e; rw [e] at hlm; cases hlm)
      rw [hlm] at hcl
      obtain ⟨kb, ko, kc, hke, hkc, hcell⟩ := hcl
      cases hke
      have hold : kb < wr.heap.size := (unhide HO).bytes.old (by intro e; rw [e] at hlm; cases hlm) kb rfl
      generalize hf : fill q = f at HO hlm hcell
      have Hcell := hide hcell
      have Hf := hide hf
      clear hcell hf
      have hy2 := hide ((unhide Hy).below (unhide HB))
      obtain ⟨wm, hwm⟩ : ∃ wm, wm = wr := ⟨_, rfl⟩
      subst hwm
      go_wp2
      go_loopw [6, 7, 8] (fun vi vo i wt => ∃ k : Nat, k ≤ 64 ∧ i = .int .i64 k ∧ TwoX wm.heap.size wm f vi vo k wt) (fun _ _ i _ => 64 - (intOf i).toNat)
      case atStart => exact ⟨0, by omega, rfl, ⟨rfl, Or.inl ⟨rfl, rfl⟩⟩, ⟨rfl, Or.inl ⟨rfl, rfl⟩⟩, fun _ => ⟨rfl, rfl⟩, Below.refl _ _, Nat.le_refl _⟩
      case round =>
        obtain ⟨k, hk64, rfl, hT⟩ := hrel
        have HT := hide hT
        have hsz := hT.sz
        have hbel := hT.bel
        by_cases hlt : k < 64
        · have cK : wr.cell? ⟨kb, ko + k, none⟩ = some (.int .u8 (ib (f.getD k 0))) := by rw [hbel.cell hold]; exact unhide Hcell k hlt
          have hx1 : bits .xor .u8 (ib (f.getD k 0)) 54 = ib (f.getD k 0 ^^^ 54) := ib_xor (f.getD k 0) 54
          have hx2 : bits .xor .u8 (ib (f.getD k 0)) 92 = ib (f.getD k 0 ^^^ 92) := ib_xor (f.getD k 0) 92
          generalize hxx : f.getD k 0 = x at cK hx1 hx2
          have Hxx := hide hxx
          have hl1 : (xTo f 54 k).length = k := length_xTo f 54 k (by omega)
          have hl2 : (xTo f 92 k).length = k := length_xTo f 92 k (by omega)
          have k0 : (0 : Int) ≤ (k : Int) := by omega
          have k1 : (k : Int) < 64 := by omega
          have Hbel := hide hbel
          clear hT hxx hbel
          go_wp2_with (first
            | (at_builtin; refine wpList_append_bytes rfl _ _ rfl wm.heap.size _ (.slice (some ⟨wr.heap.size, 0, none⟩) 1 1) (xTo f 54 k) [x ^^^ 54] rfl (OwnB.alloc (unhide HT).i _) rfl (bytes_new wr [x ^^^ 54] 5 (by simp)) (by simp; omega) (by rw [hl1]; simp; omega) ?_; intro v3 w3 hO3 hg3; have cK3 := ((Below.refl wm.heap.size wr).alloc hsz _ |>.grown hg3 (by simp; omega) (fun j hj => (unhide HT).i.fresh j hj)).cell hold (p := ⟨kb, ko + k, none⟩); rw [cK] at cK3; have hs3 : wm.heap.size ≤ w3.heap.size := (by have := hg3.size; simp at this; omega); have ho3 := ((unhide HT).o.alloc _).kept hg3 ((unhide HT).apart (by omega)))
            | (at_builtin; refine wpList_append_bytes rfl _ _ rfl wm.heap.size _ (.slice (some ⟨w3.heap.size, 0, none⟩) 1 1) (xTo f 92 k) [x ^^^ 92] rfl (OwnB.alloc ho3 _) rfl (bytes_new w3 [x ^^^ 92] 5 (by simp)) (by simp; omega) (by rw [hl2]; simp; omega) ?_; intro v4 w4 hO4 hg4))
          have hxe := unhide Hxx
          subst hxe
          have T5 := (unhide HT).step (by omega) hO3 hg3 hO4 hg4
          clear hO3 hg3 hO4 hg4
          go_roundw
          case rel =>
            first
              | exact ⟨k + 1, by omega, by go_num, T5⟩
              | ((repeat apply Exists.intro); exact ⟨⟨k + 1, by omega, by go_num, T5⟩, rfl⟩)
          case measure => simp [intOf]; omega
        · obtain rfl : k = 64 := by omega
          have hap := hT.apart (by omega)
          have hi := hT.i
          have ho := hT.o
          rw [xTo_full f 54 64 hlm] at hi
          rw [xTo_full f 92 64 hlm] at ho
          have hf1 : (f.map (· ^^^ (54 : UInt8))).length = 64 := by simp [hlm]
          have hf2 : (f.map (· ^^^ (92 : UInt8))).length = 64 := by simp [hlm]
          have Hi := hide hi
          have Ho := hide ho
          have Hy3 := hide ((unhide hy2).below hbel)
          have Hbel := hide ((unhide HB).trans (hbel.mono hS))
          clear hT HT hi ho hbel
          go_wp2_with (at_builtin; refine wpList_append_bytes rfl _ _ rfl wm.heap.size _ y (f.map (· ^^^ 54)) l rfl (unhide Hi) rfl (unhide Hy3) hsz (by rw [hf1]; omega) ?_; intro v5 w5 hO5 hg5; generalize hL5 : f.map (· ^^^ 54) ++ l = L5 at hO5; obtain ⟨sp5, c5, rfl⟩ := hO5.form)
          have hs5 := hg5.size
          have hl5 : L5.length = 64 + l.length := by rw [← hL5, List.length_append, hf1]
          have HO5 := hide hO5
          have Ho5 := hide ((unhide Ho).kept hg5 hap)
          have Hb5 := hide ((unhide Hbel).grown hg5 (unhide Hbel).size (fun j hj => by have := (unhide Hi).fresh j hj; omega))
          clear hO5 hg5 Hi Ho hap Hy3 Hbel
          refine (refSum_any w5 sp5 c5 L5 (unhide HO5).bytes (by omega)).mono ?_
          rintro e w6 ⟨v6, rfl, hO6, hb6⟩
          have hs6 := hb6.size
          have B6 := hide hO6.bytes
          have Ho6 := hide ((unhide Ho5).below hb6)
          have Hb6 := hide ((unhide Hb5).trans (hb6.mono (unhide Hb5).size))
          clear hO6 hb6 HO5 Ho5 Hb5
          have hls := length_shaOf L5
          go_wp2_with (at_builtin; refine wpList_append_bytes rfl _ _ rfl wm.heap.size _ v6 (f.map (· ^^^ 92)) (shaOf L5) rfl (unhide Ho6) rfl (unhide B6) (by omega) (by rw [hf2, hls]; omega) ?_; intro v7 w7 hO7 hg7; generalize hL7 : f.map (· ^^^ 92) ++ shaOf L5 = L7 at hO7; obtain ⟨sp7, c7, rfl⟩ := hO7.form)
          have HO7 := hide hO7
          have hl7 : L7.length = 96 := by rw [← hL7, List.length_append, hf2, hls]
          have Hb7 := hide ((unhide Hb6).grown hg7 (unhide Hb6).size (fun j hj => by have := (unhide Ho6).fresh j hj; omega))
          clear hO7 hg7 Ho6 Hb6 B6
          refine (refSum_any w7 sp7 c7 L7 (unhide HO7).bytes (by omega)).mono ?_
          rintro e w8 ⟨v8, rfl, hO8, hb8⟩
          have HO8 := hide (hO8.mono (unhide Hb7).size)
          have Hb8 := hide ((unhide Hb7).trans (hb8.mono (unhide Hb7).size))
          clear hO8 hb8 HO7 Hb7
          go_wp2_with fail
          go_ret
          have hfin : macFilled (fill (key)) l = shaOf L7 := by rw [unhide Hq, unhide Hf, ← hL7, ← hL5]; rfl
          rw [hfin]
          exact ⟨_, rfl, unhide HO8, unhide Hb8⟩
theorem refMac_any (w : World) (sp : Option Addr) (c : Nat) (key : List UInt8) (hx : BytesAt w (.slice sp key.length c) key) (hk : key.length ≤ 1000000) (y : Value) (l : List UInt8) (hy : BytesAt w y l) (hl : l.length ≤ 1000000) :
    Calls Tryd.prog 13 #[.slice sp key.length c, y] w fun e w' => ∃ v, e = .returned v ∧ OwnB w' w.heap.size v (macOf key l) ∧ Below w.heap.size w w' := by
  unfold macOf
  by_cases h : 64 < key.length
  · rw [if_pos h]; exact refMac_long w sp c key hx hk h y l hy hl
  · rw [if_neg h]; exact refMac_short w sp c key hx hk h y l hy hl
end Go.Proofs.YtodcpcdhkghgnaaDoor
