/-
  The walk of the reference's Join.
  The walks of the reference's Leaf and node.
  The walks of the landed marked, Leaf and joined.
  The walks of the landed split, of bytes.Equal and bytes.Clone, of isNone.
  The walks of the landed areHashes, sha.Sum, isNone, cutLast, and of the reference's sized.
  The walk of New.
-/
import Derived.Test.YtmhlafhbdpeglaaDoorQ1
import Derived.Test.YtmhlafhbdpeglaaDoorQ7
import Derived.Test.YtmhlafhbdpeglaaDoorQ2
namespace Go.Proofs.YtmhlafhbdpeglaaDoor
open Go.RowKit
/-- An empty literal. -/
theorem ownb_empty (w : World) : OwnB (w.alloc (.cells #[] 5)) w.heap.size (.slice (some ⟨w.heap.size, 0, none⟩) 0 0) [] := ⟨rfl, Or.inr ⟨w.heap.size, 0, #[], rfl, Nat.le_refl _, heap_alloc_new w _, Nat.le_refl _, Nat.zero_le _, rfl, rfl⟩⟩
set_option maxRecDepth 100000 in
set_option maxHeartbeats 1000000 in
theorem join_any (w : World) (x y : Value) (a b : Bs) (hx : BytesAt w x a) (hy : BytesAt w y b) (hl : a.length + b.length ≤ 1073741824) : GivesB w 46 #[x, y] (a ++ b) := by
  have hbA : Below w.heap.size w (w.alloc (.cells #[] 5)) := (Below.refl _ _).alloc (Nat.le_refl _) _
  have HOA := hide (ownb_empty w)
  have HXA := hide (hx.below hbA)
  have HY := hide hy
  have HbA := hide hbA
  have Hs := hide hbA.size
  have Hl1 := hide (show ([] : Bs).length + a.length ≤ 1073741824 by simp; omega)
  have Hl2 := hide hl
  clear hx hy hbA hl
  go_enter Tryd.func46, Tryd.ntmps46
  go_wp2_with (first
    | (at_builtin; refine wpList_append_bytes rfl _ _ rfl w.heap.size (.slice (some ⟨w.heap.size, 0, none⟩) 0 0) x [] a rfl (unhide HOA) rfl (unhide HXA) (unhide Hs) (unhide Hl1) ?_
       intro v2 w2 hO2 hg2 _
       rw [List.nil_append] at hO2
       have hb2 := ownb_below (unhide HOA) hg2 (unhide HbA) (unhide Hs)
       have HO2 := hide hO2
       have HB2 := hide hb2
       have HY2 := hide ((unhide HY).below hb2)
       have Hs2 := hide hb2.size
       clear hO2 hg2 hb2)
    | (at_builtin; refine wpList_append_bytes rfl _ _ rfl w.heap.size v2 y a b rfl (unhide HO2) rfl (unhide HY2) (unhide Hs2) (unhide Hl2) ?_
       intro v3 w3 hO3 hg3 _
       have HO3 := hide hO3
       have HB3 := hide (ownb_below (unhide HO2) hg3 (unhide HB2) (unhide Hs2))
       clear hO3 hg3))
  go_ret
  exact ⟨_, rfl, unhide HO3, unhide HB3⟩
end Go.Proofs.YtmhlafhbdpeglaaDoor
namespace Go.Proofs.YtmhlafhbdpeglaaDoor
open Go.RowKit
theorem one_byte (w : World) (x : UInt8) : BytesAt (w.alloc (.cells #[.int .u8 (x.toNat : Int)] 5)) (.slice (some ⟨w.heap.size, 0, none⟩) 1 1) [x] := (bytes_new w [x])
set_option maxRecDepth 100000 in
set_option maxHeartbeats 1000000 in
theorem qleaf_c {H : Bs → Bs} (C : RefHash H) (w : World) (x : Value) (d : Bs) (hx : BytesAt w x d) (hl : d.length ≤ 1000000) : GivesB w 28 #[x] (leafH H d) := by
  have hbA : Below w.heap.size w (w.alloc (.cells #[.int .u8 0] 5)) := (Below.refl _ _).alloc (Nat.le_refl _) _
  have HO := hide (one_byte w 0)
  have HX := hide (hx.below hbA)
  have HB := hide hbA
  have HC := hide C
  have Hl := hide hl
  clear hx hbA C hl
  go_enter Tryd.func28, Tryd.ntmps28
  go_wp2_with fail
  refine (join_any _ _ _ [0] d (unhide HO) (unhide HX) (by have := unhide Hl; simp; omega)).mono ?_
  rintro e w1 ⟨v1, rfl, hR1⟩
  have HR1 := hide (hR1.up (unhide HB))
  clear hR1
  go_wp2_with fail
  refine ((unhide HC).sum w1 v1 _ (unhide HR1).bytes (by have := unhide Hl; simp; omega)).mono ?_
  rintro e w2 ⟨v2, rfl, hR2⟩
  have HR2 := hide (hR2.up (unhide HR1).b)
  clear hR2
  go_wp2
  go_ret
  exact ⟨_, rfl, unhide HR2⟩
set_option maxRecDepth 100000 in
set_option maxHeartbeats 1000000 in
theorem qnode_c {H : Bs → Bs} (C : RefHash H) (w : World) (x y : Value) (l r : Bs) (hx : BytesAt w x l) (hy : BytesAt w y r) (hl : l.length ≤ 1000) (hr : r.length ≤ 1000) : GivesB w 33 #[x, y] (nodeH H l r) := by
  have hbA : Below w.heap.size w (w.alloc (.cells #[.int .u8 1] 5)) := (Below.refl _ _).alloc (Nat.le_refl _) _
  have HO := hide (one_byte w 1)
  have HX := hide (hx.below hbA)
  have HY := hide (hy.below hbA)
  have HB := hide hbA
  have HC := hide C
  have Hl := hide hl
  have Hr := hide hr
  clear hx hy hbA C hl hr
  go_enter Tryd.func33, Tryd.ntmps33
  go_wp2_with fail
  refine (join_any _ _ _ [1] l (unhide HO) (unhide HX) (by have := unhide Hl; simp; omega)).mono ?_
  rintro e w1 ⟨v1, rfl, hR1⟩
  have HY1 := hide ((unhide HY).below hR1.b)
  have HV1 := hide hR1.bytes
  have HB1 := hide ((unhide HB).trans (hR1.b.mono (unhide HB).size))
  clear hR1
  go_wp2_with fail
  refine (join_any w1 v1 y ([1] ++ l) r (unhide HV1) (unhide HY1) (by have := unhide Hl; have := unhide Hr; simp; omega)).mono ?_
  rintro e w2 ⟨v2, rfl, hR2⟩
  have HR2 := hide (hR2.up (unhide HB1))
  clear hR2
  go_wp2_with fail
  refine ((unhide HC).sum w2 v2 _ (unhide HR2).bytes (by have := unhide Hl; have := unhide Hr; simp; omega)).mono ?_
  rintro e w3 ⟨v3, rfl, hR3⟩
  have HR3 := hide (hR3.up (unhide HR2).b)
  clear hR3
  go_wp2
  go_ret
  exact ⟨_, rfl, unhide HR3⟩
end Go.Proofs.YtmhlafhbdpeglaaDoor
namespace Go.Proofs.YtmhlafhbdpeglaaDoor
open Go.RowKit
theorem b_sha {w : World} {x : Value} {l : Bs} (h : BytesAt w x l) : Sha.BytesAt w x l := by
  obtain ⟨sp, c, rfl, h1, h2, h3⟩ := h
  rw [List.length_map] at h1 ⊢
  exact ⟨sp, c, rfl, h1, h2, fun hl => h3 (by simpa using hl)⟩
theorem own_sha {w : World} {B : Nat} {v : Value} {l : Bs} (h : Sha.OwnB w B v l) : OwnB w B v l := by
  unfold OwnB OwnV
  rw [List.length_map]
  exact h
/-- What the hash was told. -/
structure Tell (wA w : World) (l : Bs) : Prop where
  h : Sha.HashAt w wA.heap.size (Sha.feed Sha.hs0 l)
  r : Sha.Ready w
  b : Below wA.heap.size wA w
  g : 1 < wA.heap.size
theorem Tell.lt {wA w : World} {l : Bs} (t : Tell wA w l) : wA.heap.size < w.heap.size := (Array.getElem?_eq_some_iff.1 t.h).1
theorem Tell.on {wA w w' : World} {l : Bs} (t : Tell wA w l) (hb : Below w.heap.size w w') : Tell wA w' l := ⟨t.h.below hb, t.r.below hb, t.b.trans (hb.mono t.b.size), t.g⟩
theorem Tell.write {wA w : World} {l : Bs} (t : Tell wA w l) (x : Value) (m : Bs) (hx : BytesAt w x m) (hne : m ≠ [] → x.ownBlock ≠ some wA.heap.size) (hl : l.length + m.length ≤ 4611686018427387904) :
    Calls Tryd.prog 48 #[.pointer (some ⟨wA.heap.size, 0, none⟩), x] w fun e w' => e = .returned (.tuple #[]) ∧ Tell wA w' (l ++ m) := by
  have h0 : (Sha.feed Sha.hs0 l).told = l.length := by rw [Sha.feed_told]; exact Nat.zero_add _
  refine (Sha.write_val wA.heap.size t.g (Sha.feed Sha.hs0 l) (Sha.feed_ok _ _ Sha.hs0_ok) w t.h t.r.2 x m (b_sha hx) hne (by rw [h0]; exact hl)).mono ?_
  rintro e w' ⟨rfl, hH, hG⟩
  refine ⟨rfl, by rw [Sha.feed_append]; exact hH, t.r.grown hG t.g, t.b.grown hG t.b.size (fun k hk => by cases hk; exact Nat.le_refl _), t.g⟩
theorem old_apart {wA : World} {x : Value} {l : Bs} (h : BytesAt wA x l) : l ≠ [] → x.ownBlock ≠ some wA.heap.size := fun hl e => by
  have := ValsAt.old h (by simpa using hl) _ e
  omega
theorem new_apart {wA w w' : World} {x : Value} {l : Bs} (h : Row w w' x l) (hw : wA.heap.size < w.heap.size) : l ≠ [] → x.ownBlock ≠ some wA.heap.size := fun _ e => by
  have := h.own.fresh _ e
  omega
set_option maxRecDepth 100000 in
set_option maxHeartbeats 2000000 in
theorem marked_c (w0 : World) (hr : Sha.Ready w0) (m : UInt8) (xp : Value) (ls : List Bs) (hp : LL w0 xp ls) (ll : ls.flatten.length ≤ 1000000) (lc : ls.length ≤ 1000) :
    GivesB w0 39 #[.int .u8 (m.toNat : Int), xp] (Sha.shaOf (m :: ls.flatten)) := by
  obtain ⟨sp, cp, rfl⟩ := hp.form
  have HP := hide hp
  have HR := hide hr
  have Hl := hide ll
  have lc' : (ls.length : Int) ≤ 1000 := by omega
  have lc0 : (0 : Int) ≤ (ls.length : Int) := by omega
  have m0 : (0 : Int) ≤ (m.toNat : Int) := by omega
  have m1 : (m.toNat : Int) ≤ 255 := by have := m.toNat_lt; omega
  have Hm := hide (one_byte · m)
  obtain ⟨M, hM⟩ : ∃ M, m.toNat = M := ⟨_, rfl⟩
  rw [hM] at m0 m1 Hm
  rw [hM]
  clear hp hr ll hM
  go_enter Tryd.func39, Tryd.ntmps39
  go_wp2_with fail
  refine (Sha.new_any w0 (unhide HR).1).mono ?_
  rintro e w1 ⟨rfl, hw1⟩
  have hb1 : Below w0.heap.size w0 w1 := by rw [hw1]; exact (Below.refl _ _).alloc (Nat.le_refl _) _
  have HT1 : Hid (Tell w0 w1 []) := hide ⟨by rw [hw1]; exact heap_alloc_new w0 _, (unhide HR).below hb1, hb1, (unhide HR).lt⟩
  have hbL : Below w1.heap.size w1 (w1.alloc (.cells #[.int .u8 (M : Int)] 5)) := (Below.refl _ _).alloc (Nat.le_refl _) _
  have HTL := hide ((unhide HT1).on hbL)
  have HL := hide (unhide Hm w1)
  have hnL : Hid ([m] ≠ [] → (Value.slice (some ⟨w1.heap.size, 0, none⟩) 1 1).ownBlock ≠ some w0.heap.size) := fun _ e => by
    simp [Value.ownBlock] at e
    have := (unhide HT1).lt
    omega
  clear hw1 hb1 hbL
  go_wp2_with fail
  refine ((unhide HTL).write _ [m] (unhide HL) (unhide hnL) (by simp)).mono ?_
  rintro e w2 ⟨rfl, hT2⟩
  have HT2 : Hid (Tell w0 w2 (m :: (ls.take 0).flatten)) := by
    show Tell _ _ _
    simpa using hT2
  clear hT2 HTL HL hnL HT1
  go_wp2
  go_loopw [15] (fun ii wr => ∃ i : Nat, i ≤ ls.length ∧ ii = .int .i64 (i : Int) ∧ Hid (Tell w0 wr (m :: (ls.take i).flatten))) (fun ii _ => ls.length - (intOf ii).toNat)
  case atStart => exact ⟨0, by omega, rfl, HT2⟩
  case round =>
    clear HT2
    obtain ⟨i, hi, rfl, HT⟩ := hrel
    have ib : (i : Int) ≤ 1000 := by omega
    have ib0 : (0 : Int) ≤ (i : Int) := by omega
    rename World => wc
    by_cases hlt : i < ls.length
    · obtain ⟨b, o, c, v, e, hb, hc, hv⟩ := (unhide HP).at i hlt
      simp only [Value.slice.injEq] at e
      obtain ⟨rfl, _, rfl⟩ := e
      have hc' : wc.cell? ⟨b, o + i, none⟩ = some v := by rw [(unhide HT).b.cell (p := ⟨b, o + i, none⟩) hb]; exact hc
      have Hv := hide hv
      have il : (i : Int) < (ls.length : Int) := by omega
      clear hc hv hb
      go_wp2_with fail
      refine ((unhide HT).write v (ls.getD i []) ((unhide Hv).below (unhide HT).b) (old_apart (unhide Hv)) (by
        have h1 := unhide Hl
        have h2 := flat_succ ls i hlt
        have h3 := flat_le ls (i + 1)
        rw [h2, List.length_append] at h3
        rw [List.length_cons]
        omega)).mono ?_
      rintro e w7 ⟨rfl, hT7⟩
      have HT7 : Hid (Tell w0 w7 (m :: (ls.take (i + 1)).flatten)) := by
        show Tell _ _ _
        rw [flat_succ ls i hlt, ← List.cons_append]; exact hT7
      clear hT7 hc' HT
      go_wp2
      go_roundw
      case rel =>
        first
          | exact ⟨i + 1, by omega, by go_num, HT7⟩
          | ((repeat apply Exists.intro); exact ⟨⟨i + 1, by omega, by go_num, HT7⟩, rfl⟩)
      case measure => simp [intOf]; omega
    · obtain rfl : i = ls.length := by omega
      have di : decide ((ls.length : Int) < (ls.length : Int)) = false := by simp
      have hok := Sha.feed_ok Sha.hs0 (m :: ls.flatten) Sha.hs0_ok
      have HT' : Hid (Tell w0 wc (m :: ls.flatten)) := by
        show Tell _ _ _
        have := unhide HT
        rwa [List.take_length] at this
      clear HT
      go_wp2_with fail
      refine (Sha.hsum_any w0.heap.size _ hok wc (unhide HT').r.lt (unhide HT').h (unhide HT').r.2 (by
        rw [Sha.feed_told]
        have := unhide Hl
        rw [List.length_cons]
        show 0 + _ ≤ _
        omega)).mono ?_
      rintro e w8 ⟨v8, rfl, hO, hb8⟩
      have HF : Hid (Row w0 w8 v8 (Sha.shaOf (m :: ls.flatten))) := by
        show Row _ _ _ _
        have hR : Row wc w8 v8 (Sha.shaOf (m :: ls.flatten)) := ⟨own_sha hO, hb8⟩
        exact hR.up (unhide HT').b
      clear hO hb8
      go_wp2
      go_ret
      exact ⟨_, rfl, unhide HF⟩
set_option maxRecDepth 100000 in
set_option maxHeartbeats 1000000 in
theorem mleaf_c (w : World) (hr : Sha.Ready w) (x : Value) (d : Bs) (hx : BytesAt w x d) (hl : d.length ≤ 1000000) : GivesB w 22 #[x] (leafH Sha.shaOf d) := by
  obtain ⟨sp, c, hf⟩ := BytesAt.forms hx
  have hbA : Below w.heap.size w (w.alloc (.cells #[x] 28)) := (Below.refl _ _).alloc (Nat.le_refl _) _
  have HL := hide (ll_new1 w x d 28 hx)
  have HB := hide hbA
  have HR := hide (hr.below hbA)
  have Hl := hide hl
  obtain ⟨c', rfl⟩ := hf
  clear hx hbA hr hl
  go_enter Tryd.func22, Tryd.ntmps22
  go_wp2_with fail
  refine (marked_c _ (unhide HR) 0 _ [d] (unhide HL) (by have := unhide Hl; simp; omega) (by simp)).mono ?_
  rintro e w1 ⟨v1, rfl, hR1⟩
  have HR1 : Hid (Row w w1 v1 (leafH Sha.shaOf d)) := by
    show Row _ _ _ _
    have := hR1.up (unhide HB)
    simpa [leafH] using this
  clear hR1
  go_wp2
  go_ret
  exact ⟨_, rfl, unhide HR1⟩
set_option maxRecDepth 100000 in
set_option maxHeartbeats 1000000 in
theorem joined_c (w : World) (hr : Sha.Ready w) (x y : Value) (l r : Bs) (hx : BytesAt w x l) (hy : BytesAt w y r) (hl : l.length ≤ 1000) (hr' : r.length ≤ 1000) : GivesB w 45 #[x, y] (nodeH Sha.shaOf l r) := by
  obtain ⟨sp, c, c', hf⟩ := BytesAt.forms hx
  obtain ⟨sp2, c2, c2', hf2⟩ := BytesAt.forms hy
  have hbA : Below w.heap.size w (w.alloc (.cells #[x, y] 28)) := (Below.refl _ _).alloc (Nat.le_refl _) _
  have HL := hide (ll_new2 w x y l r 28 hx hy)
  have HB := hide hbA
  have HR := hide (hr.below hbA)
  have Hl := hide hl
  have Hl2 := hide hr'
  subst hf
  subst hf2
  clear hx hy hbA hr hl hr'
  go_enter Tryd.func45, Tryd.ntmps45
  go_wp2_with fail
  refine (marked_c _ (unhide HR) 1 _ [l, r] (unhide HL) (by have := unhide Hl; have := unhide Hl2; simp; omega) (by simp)).mono ?_
  rintro e w1 ⟨v1, rfl, hR1⟩
  have HR1 : Hid (Row w w1 v1 (nodeH Sha.shaOf l r)) := by
    show Row _ _ _ _
    have := hR1.up (unhide HB)
    simpa [nodeH] using this
  clear hR1
  go_wp2
  go_ret
  exact ⟨_, rfl, unhide HR1⟩
end Go.Proofs.YtmhlafhbdpeglaaDoor
namespace Go.Proofs.YtmhlafhbdpeglaaDoor
open Go.RowKit
theorem bits_log : ∀ (f x : Nat), x < 2 ^ f → x ≠ 0 → Lib.bitLenAux f x = x.log2 + 1
  | 0, x, h, h0 => by simp at h; exact absurd h h0
  | f + 1, x, h, h0 => by
    rw [Nat.pow_succ] at h
    unfold Lib.bitLenAux
    rw [if_neg h0, Nat.log2_def]
    by_cases h2 : 2 ≤ x
    · rw [if_pos h2, bits_log f (x / 2) (by omega) (by omega)]; omega
    · rw [if_neg h2]
      obtain rfl : x = 1 := by omega
      cases f <;> rfl
theorem bitlen_log {x : Nat} (h : x < 2 ^ 64) (h0 : x ≠ 0) : Lib.bitLen x = x.log2 + 1 := bits_log 64 x h h0
set_option maxRecDepth 100000 in
set_option maxHeartbeats 1000000 in
theorem split_c (w : World) (n : Nat) (h2 : 2 ≤ n) (hn : n ≤ 9223372036854775807) : Calls Tryd.prog 52 #[.int .i64 (n : Int)] w fun e w' => e = .returned (.int .i64 (cutP n : Int)) ∧ w' = w := by
  obtain ⟨m, rfl⟩ : ∃ m, n = m + 1 := ⟨n - 1, by omega⟩
  have hb := bitlen_log (x := m) (by omega) (by omega)
  have hl : m.log2 ≤ 62 := by
    have := Nat.log2_self_le (n := m) (by omega)
    have h3 : 2 ^ m.log2 < 2 ^ 63 := by omega
    have := (Nat.pow_lt_pow_iff_right (show 1 < 2 by omega)).1 h3
    omega
  have hc : cutP (m + 1) = 2 ^ m.log2 := rfl
  have hle : cutP (m + 1) < m + 1 := cut_lt h2
  obtain ⟨Z, hZ⟩ : ∃ Z, m.log2 = Z := ⟨_, rfl⟩
  obtain ⟨K, hK⟩ : ∃ K, cutP (m + 1) = K := ⟨_, rfl⟩
  rw [hZ] at hb hl hc
  rw [hK] at hc hle
  rw [hK]
  have e1 : ((m + 1 : Nat) : Int) - 1 = (m : Int) := by omega
  have m1 : (m : Int) ≤ 9223372036854775806 := by omega
  have m0 : (0 : Int) ≤ (m : Int) := by omega
  have z0 : (0 : Int) ≤ (Z : Int) := by omega
  have z1 : (Z : Int) ≤ 62 := by omega
  have hk : (2 : Int) ^ Z = (K : Int) := by rw [hc]; simp
  have k1 : (K : Int) ≤ 9223372036854775807 := by omega
  have k0 : (0 : Int) ≤ (K : Int) := by omega
  have hL : ((Lib.bitLen m : Nat) : Int) = ((Z + 1 : Nat) : Int) := by rw [hb]
  have e2 : ((Z + 1 : Nat) : Int) - 1 = (Z : Int) := by omega
  have uw : IntKind.u64.wrap (m : Int) = (m : Int) := IntWalk.u64_in _ (by omega)
  clear hc hb hK hZ hle
  go_enter Tryd.func52, Tryd.ntmps52
  go_wp2_with fail
  refine (Tryd.bits_Len (m : Int) w (by omega) (by omega)).mono ?_
  rintro e w' ⟨rfl, rfl⟩
  rw [Int.toNat_natCast, hL]
  clear hL
  go_wp2
  go_ret
  exact ⟨rfl, rfl⟩
theorem bytesIn_of {w : World} {sp : Option Addr} {c : Nat} {l : Bs} (h : BytesAt w (.slice sp l.length c) l) : Lib.BytesIn w sp l.length (l.map fun x => (x.toNat : Int)) := fun hn => by
  obtain ⟨sp', c', e, _, _, hc⟩ := bytes_open h
  simp only [Value.slice.injEq] at e
  obtain ⟨rfl, _, _⟩ := e
  obtain ⟨b, o, rfl, _, hcell⟩ := hc (by intro e; rw [e] at hn; simp at hn)
  refine ⟨b, o, rfl, fun i hi => ?_⟩
  rw [hcell i hi]
  simp [List.getD_eq_getElem?_getD, hi]
theorem bytesOf_map (l : Bs) : Lib.bytesOf (l.map fun x => (x.toNat : Int)) = l := by
  unfold Lib.bytesOf
  rw [List.map_map]
  have : ((fun n : Int => UInt8.ofNat n.toNat) ∘ fun x : UInt8 => (x.toNat : Int)) = id := by
    funext x
    simp
  rw [this, List.map_id]
theorem beq_c {w : World} {x y : Value} {a b : Bs} (hx : BytesAt w x a) (hy : BytesAt w y b) : Calls Tryd.prog 38 #[x, y] w fun e w' => e = .returned (.bool (decide (a = b))) ∧ w' = w := by
  obtain ⟨sx, cx, rfl, _⟩ := bytes_open hx
  obtain ⟨sy, cy, rfl, _⟩ := bytes_open hy
  refine (Tryd.bytes_Equal_all sx sy a.length cx b.length cy (a.map fun x => (x.toNat : Int)) (b.map fun x => (x.toNat : Int)) w (List.length_map _) (List.length_map _) (bytesIn_of hx) (bytesIn_of hy)).mono ?_
  rintro e w' ⟨rfl, rfl⟩
  rw [bytesOf_map, bytesOf_map]
  refine ⟨?_, rfl⟩
  congr 2
  rw [Bool.eq_iff_iff]
  simp
set_option maxRecDepth 100000 in
set_option maxHeartbeats 1000000 in
/-- bytes.Clone, of bytes. -/
theorem bclone_c (w : World) (x : Value) (l : Bs) (hx : BytesAt w x l) (hl : l.length ≤ 1000000) : GivesB w 51 #[x] l := by
  have hx' := hx
  obtain ⟨sp, c, rfl, h1, h2, h3⟩ := bytes_open hx'
  cases sp with
  | none =>
    have hn : l = [] := by
      by_cases h : l = []
      · exact h
      · obtain ⟨b, o, e, _⟩ := h3 h; cases e
    subst hn
    obtain rfl := h2 rfl
    have heq : ∀ w, (binOp .eql 28 (.slice none 0 0) (.slice none 0 0)).run Tryd.prog w = .ok (.bool true) w := fun w => by kernel_rfl
    clear hx hx' h1 h2 h3
    rw [List.length_nil]
    go_enter Tryd.func51, Tryd.ntmps51
    go_wp2
    go_ret
    exact ⟨_, rfl, ownb_nil w w.heap.size, Below.refl _ _⟩
  | some ad =>
    have hbA : Below w.heap.size w (w.alloc (.cells #[] 5)) := (Below.refl _ _).alloc (Nat.le_refl _) _
    have HO : Hid (Row w (w.alloc (.cells #[] 5)) (.slice (some ⟨w.heap.size, 0, none⟩) 0 0) []) := ⟨ownb_empty w, hbA⟩
    have HX := hide (hx.below hbA)
    have Hl : Hid (([] : Bs).length + l.length ≤ 1073741824) := by show _ ≤ _; simp; omega
    have heq : ∀ w, (binOp .eql 28 (.slice (some ad) l.length c) (.slice none 0 0)).run Tryd.prog w = .ok (.bool false) w := fun w => by kernel_rfl
    clear hx hx' h1 h2 h3 hbA hl
    go_enter Tryd.func51, Tryd.ntmps51
    go_wp2_with (at_builtin; refine wpList_append_row rfl _ _ rfl _ (.slice (some ad) l.length c) [] l rfl (unhide HO) rfl (unhide HX) (unhide Hl) ?_
                 intro v4 w4 hR4
                 rw [List.nil_append] at hR4
                 have HR4 := hide hR4
                 clear hR4)
    go_ret
    exact ⟨_, rfl, unhide HR4⟩
end Go.Proofs.YtmhlafhbdpeglaaDoor
namespace Go.Proofs.YtmhlafhbdpeglaaDoor
open Go.RowKit
set_option maxRecDepth 100000 in
set_option maxHeartbeats 1000000 in
theorem hashes_c (w : World) (x : Value) (ls : List Bs) (hx : LL w x ls) (hl : ls.length ≤ 1000) : Calls Tryd.prog 36 #[x] w fun e w' => e = .returned (.bool (is32 ls)) ∧ w' = w := by
  obtain ⟨sp, c, rfl⟩ := hx.form
  have HX := hide hx
  have n0 : (0 : Int) ≤ (ls.length : Int) := by omega
  have n1 : (ls.length : Int) ≤ 1000 := by omega
  have H0 : Hid (is32 (ls.take 0) = true) := by show _ = _; simp [is32]
  clear hx
  go_enter Tryd.func36, Tryd.ntmps36
  go_wp2
  go_loop [4, 7] (fun _ ii => ∃ i : Nat, i ≤ ls.length ∧ ii = .int .i64 (i : Int) ∧ Hid (is32 (ls.take i) = true)) (fun _ ii => ls.length - (intOf ii).toNat)
  case atStart => exact ⟨0, by omega, rfl, H0⟩
  case round =>
    clear H0
    obtain ⟨i, hi, rfl, Hi⟩ := hrel
    have i0 : (0 : Int) ≤ (i : Int) := by omega
    have i1 : (i : Int) ≤ 1000 := by omega
    by_cases hlt : i < ls.length
    · obtain ⟨b, o, c', v, e, hb, hc, hv⟩ := (unhide HX).at i hlt
      simp only [Value.slice.injEq] at e
      obtain ⟨rfl, _, rfl⟩ := e
      obtain ⟨s2, c2, rfl, _⟩ := bytes_open hv
      have il : (i : Int) < (ls.length : Int) := by omega
      obtain ⟨m, hm⟩ : ∃ m, (ls.getD i []).length = m := ⟨_, rfl⟩
      rw [hm] at hc
      by_cases h32 : m = 32
      · have Hi2 := hide (is32_take hlt (unhide Hi) (by rw [hm]; exact h32))
        have d1 : ((m : Int) != 32) = false := by rw [h32]; rfl
        clear hv hm Hi
        go_wp2
        go_round
        case rel => exact ⟨i + 1, by omega, by go_num, Hi2⟩
        case measure => simp [intOf]; omega
      · have Hn := hide (not32_at hlt (by rw [hm]; exact h32))
        have d1 : ((m : Int) != 32) = true := by simp; omega
        clear hv hm Hi h32
        go_wp2
        go_ret
        exact ⟨by rw [unhide Hn]; rfl, rfl⟩
    · obtain rfl : i = ls.length := by omega
      have di : decide ((ls.length : Int) < (ls.length : Int)) = false := by simp
      have Ht : Hid (is32 ls = true) := by
        have := unhide Hi
        rwa [List.take_length] at this
      clear Hi
      go_wp2
      go_ret
      exact ⟨by rw [unhide Ht]; rfl, rfl⟩
set_option maxRecDepth 100000 in
set_option maxHeartbeats 1000000 in
theorem qsized_c (w : World) (x : Value) (ls : List Bs) (hx : LL w x ls) (hl : ls.length ≤ 1000) : Calls Tryd.prog 42 #[x] w fun e w' => e = .returned (.bool (is32 ls)) ∧ w' = w := by
  obtain ⟨sp, c, rfl⟩ := hx.form
  have HX := hide hx
  have n0 : (0 : Int) ≤ (ls.length : Int) := by omega
  have n1 : (ls.length : Int) ≤ 1000 := by omega
  have H0 : Hid (is32 (ls.take 0) = true) := by show _ = _; simp [is32]
  clear hx
  go_enter Tryd.func42, Tryd.ntmps42
  go_wp2
  go_loop [3] (fun ii => ∃ i : Nat, i ≤ ls.length ∧ ii = .int .i64 (i : Int) ∧ Hid (is32 (ls.take i) = true)) (fun ii => ls.length - (intOf ii).toNat)
  case atStart => exact ⟨0, by omega, rfl, H0⟩
  case round =>
    clear H0
    obtain ⟨i, hi, rfl, Hi⟩ := hrel
    have i0 : (0 : Int) ≤ (i : Int) := by omega
    have i1 : (i : Int) ≤ 1000 := by omega
    by_cases hlt : i < ls.length
    · obtain ⟨b, o, c', v, e, hb, hc, hv⟩ := (unhide HX).at i hlt
      simp only [Value.slice.injEq] at e
      obtain ⟨rfl, _, rfl⟩ := e
      obtain ⟨s2, c2, rfl, _⟩ := bytes_open hv
      have il : (i : Int) < (ls.length : Int) := by omega
      obtain ⟨m, hm⟩ : ∃ m, (ls.getD i []).length = m := ⟨_, rfl⟩
      rw [hm] at hc
      by_cases h32 : m = 32
      · have Hi2 := hide (is32_take hlt (unhide Hi) (by rw [hm]; exact h32))
        have d1 : ((m : Int) != 32) = false := by rw [h32]; rfl
        clear hv hm Hi
        go_wp2
        go_round
        case rel => exact ⟨i + 1, by omega, by go_num, Hi2⟩
        case measure => simp [intOf]; omega
      · have Hn := hide (not32_at hlt (by rw [hm]; exact h32))
        have d1 : ((m : Int) != 32) = true := by simp; omega
        clear hv hm Hi h32
        go_wp2
        go_ret
        exact ⟨by rw [unhide Hn]; rfl, rfl⟩
    · obtain rfl : i = ls.length := by omega
      have di : decide ((ls.length : Int) < (ls.length : Int)) = false := by simp
      have Ht : Hid (is32 ls = true) := by
        have := unhide Hi
        rwa [List.take_length] at this
      clear Hi
      go_wp2
      go_ret
      exact ⟨by rw [unhide Ht]; rfl, rfl⟩
set_option maxRecDepth 100000 in
set_option maxHeartbeats 2000000 in
/-- The landed sum. -/
theorem ssum_c (w0 : World) (hr : Sha.Ready w0) (x : Value) (l : Bs) (hx : BytesAt w0 x l) (hl : l.length ≤ 1000000) : GivesB w0 29 #[x] (Sha.shaOf l) := by
  obtain ⟨s, n, c, rfl⟩ := hx.forms
  have HX := hide hx
  have HR := hide hr
  have Hl := hide hl
  clear hx hr hl
  go_enter Tryd.func29, Tryd.ntmps29
  go_wp2_with fail
  refine (Sha.new_any w0 (unhide HR).1).mono ?_
  rintro e w1 ⟨rfl, hw1⟩
  have hb1 : Below w0.heap.size w0 w1 := by rw [hw1]; exact (Below.refl _ _).alloc (Nat.le_refl _) _
  have HT1 : Hid (Tell w0 w1 []) := hide ⟨by rw [hw1]; exact heap_alloc_new w0 _, (unhide HR).below hb1, hb1, (unhide HR).lt⟩
  clear hw1 hb1
  go_wp2_with fail
  refine ((unhide HT1).write _ l ((unhide HX).below (unhide HT1).b) (old_apart (unhide HX)) (by have := unhide Hl; simp; omega)).mono ?_
  rintro e w2 ⟨rfl, hT2⟩
  have HT2 : Hid (Tell w0 w2 l) := by
    show Tell _ _ _
    simpa using hT2
  have hok := hide (Sha.feed_ok Sha.hs0 l Sha.hs0_ok)
  clear hT2 HT1
  go_wp2_with fail
  refine (Sha.hsum_any w0.heap.size _ (unhide hok) w2 (unhide HT2).r.lt (unhide HT2).h (unhide HT2).r.2 (by
    rw [Sha.feed_told]
    have := unhide Hl
    show 0 + _ ≤ _
    omega)).mono ?_
  rintro e w8 ⟨v8, rfl, hO, hb8⟩
  have HF : Hid (Row w0 w8 v8 (Sha.shaOf l)) := by
    show Row _ _ _ _
    have hR : Row w2 w8 v8 (Sha.shaOf l) := ⟨own_sha hO, hb8⟩
    exact hR.up (unhide HT2).b
  clear hO hb8
  go_wp2
  go_ret
  exact ⟨_, rfl, unhide HF⟩
set_option maxRecDepth 100000 in
set_option maxHeartbeats 1000000 in
theorem isnone_c (w : World) (hr : Sha.Ready w) (x : Value) (l : Bs) (hx : BytesAt w x l) : Calls Tryd.prog 40 #[x] w fun e w' => e = .returned (.bool (decide (l = Sha.shaOf []))) ∧ Below w.heap.size w w' := by
  obtain ⟨s, n, c, rfl⟩ := hx.forms
  have HX := hide hx
  have HR := hide hr
  clear hx hr
  go_enter Tryd.func40, Tryd.ntmps40
  go_wp2_with fail
  refine (ssum_c w (unhide HR) _ [] (bytes_nil w) (by simp)).mono ?_
  rintro e w1 ⟨v1, rfl, hR1⟩
  have HR1 := hide hR1
  clear hR1
  go_wp2_with fail
  refine (beq_c ((unhide HX).below (unhide HR1).b) (unhide HR1).bytes).mono ?_
  rintro e w2 ⟨rfl, hw⟩
  have HB : Hid (Below w.heap.size w w2) := by show Below _ _ _; rw [hw]; exact (unhide HR1).b
  clear hw
  go_wp2
  go_ret
  exact ⟨rfl, unhide HB⟩
set_option maxRecDepth 100000 in
set_option maxHeartbeats 1000000 in
/-- The last hash cut off. -/
theorem cutlast_c (w : World) (s : Option Addr) (n c : Nat) (ls : List Bs) (hx : LL w (.slice s n c) ls) (hn : n ≤ 1000) : Calls Tryd.prog 55 #[.slice s n c] w fun e w' => Below w.heap.size w w' ∧ (ls = [] → e = .returned (.tuple #[.slice none 0 0, .slice none 0 0, .bool false])) ∧ (ls ≠ [] → ∃ v, e = .returned (.tuple #[.slice s (n - 1) c, v, .bool true]) ∧ BytesAt w v (ls.getD (ls.length - 1) [])) := by
  have hlen := hx.len
  by_cases h0 : ls = []
  · subst h0
    obtain rfl : n = 0 := hlen.1
    clear hx hlen
    go_enter Tryd.func55, Tryd.ntmps55
    go_wp2
    refine bodyPost_ret (v := .tuple #[.slice none 0 0, .slice none 0 0, .bool false]) (by simp [results, Tryd.results55, go_sem]) rfl ⟨Below.refl _ _, fun _ => rfl, fun h => absurd rfl h⟩
  · have hp : 0 < ls.length := List.length_pos_iff.2 h0
    obtain ⟨m, rfl⟩ : ∃ m, n = m + 1 := ⟨n - 1, by omega⟩
    obtain ⟨b, o, c', v, e, hb, hc, hv⟩ := hx.at m (by omega)
    simp only [Value.slice.injEq] at e
    obtain ⟨rfl, hml, rfl⟩ := e
    have hs : ∀ w, (Instr.sliceAt 22 (.slice (some ⟨b, o, none⟩) (m + 1) c) none (some (.int .i64 (m : Int))) none).run Tryd.prog w = .ok (.slice (some ⟨b, o, none⟩) m c) w := slice_frontbb _ _ _ m (by omega)
    have e1 : ((m + 1 : Nat) : Int) - 1 = (m : Int) := by omega
    have m0 : (0 : Int) ≤ (m : Int) := by omega
    have m1 : (m : Int) ≤ 1000 := by omega
    have d0 : (((m + 1 : Nat) : Int) == 0) = false := by simp; omega
    have el : ls.length - 1 = m := by omega
    rw [← el] at hv
    have Hv := hide hv
    have H0 := hide h0
    clear hx hlen hb hv el h0 hp hml
    go_enter Tryd.func55, Tryd.ntmps55
    go_wp2
    go_region
    go_wp2
    refine bodyPost_ret (v := .tuple #[.slice (some ⟨b, o, none⟩) m c, v, .bool true]) (by simp [results, Tryd.results55, go_sem]) rfl ⟨(Below.refl _ _).drew, fun h => absurd h (unhide H0), fun _ => ⟨v, rfl, unhide Hv⟩⟩
end Go.Proofs.YtmhlafhbdpeglaaDoor
namespace Go.Proofs.YtmhlafhbdpeglaaDoor
open Go.RowKit
def rows0 : List Value := List.replicate 64 (.slice none 0 0)
theorem built_tree : Tryd.prog.built 50 [] = some rows0.toArray := by kernel_rfl
set_option maxRecDepth 100000 in
set_option maxHeartbeats 1000000 in
theorem mnew_c (w : World) : Calls Tryd.prog 26 #[] w fun e w' => e = .returned (.pointer (some ⟨w.heap.size, 0, none⟩)) ∧ w' = w.alloc (.cells rows0.toArray 50) := by
  obtain ⟨cc, hcc⟩ : ∃ cc, rows0.toArray = cc := ⟨_, rfl⟩
  have hb : Tryd.prog.built 50 [] = some cc := by rw [← hcc]; exact built_tree
  rw [hcc]
  have Hb := hide hb
  clear hb hcc
  go_enter Tryd.func26, Tryd.ntmps26
  go_wp2_with (refine wpList_build rfl 50 _ rfl (by simp [go_sem, unhide Hb]) ?_)
  go_ret
  exact ⟨rfl, by rw [unhide Hb]; rfl⟩
end Go.Proofs.YtmhlafhbdpeglaaDoor
