/-
  The walk of the statement DerCuts.
-/
import Derived.Test.YtngkidlgcdofhaaDoorAnc9
import Derived.Test.YtngkidlgcdofhaaDoorSpent9
import Derived.Test.YtngkidlgcdofhaaDoorCut9
import Derived.Test.YtngkidlgcdofhaaDoorJoin9
import Derived.Test.YtngkidlgcdofhaaDoorThere9
namespace Go.Proofs.YtngkidlgcdofhaaDoor
open Go.RowKit
theorem len_tagB_le (c t : Nat) (m : Bool) : (tagB c t m).length ≤ 4 := by
  unfold tagB
  split
  · simp
  · simp only [List.length_cons, List.length_append, List.length_nil]
    split <;> split <;> simp
theorem len_lenB_le {n : Nat} (h : n < 4294967296) : (lenB n).length ≤ 5 := by
  unfold lenB
  split
  · simp
  · have := (lowB_len4 (by omega) h).2
    simp only [List.length_cons, List.length_reverse]
    omega
mutual
/-- A value's bytes are not many more. -/
theorem len_weight (form : Form) : ∀ (f : Nat) (v : DV) (w : Bs), writeP form f v = .yes w → weight v ≤ 100000000 → w.length ≤ 9 * weight v
  | 0, v, w, h, _ => by simp [writeP] at h
  | f + 1, .mk c t m b ks, w, h, hw => by
    obtain ⟨_, _, _, _, _, _, _, bs, hbs, _, rfl⟩ := write_open h
    simp only [weight] at hw ⊢
    have h1 := len_weights form f ks bs hbs (by omega)
    have h2 := len_tagB_le c.toNat t.toNat m
    have h3 := len_lenB_le (n := (b ++ bs.flatten).length) (by simp only [List.length_append]; omega)
    simp only [List.length_append] at h3 ⊢
    omega
theorem len_weights (form : Form) : ∀ (f : Nat) (ks : List DV) (bs : List Bs), allP (writeP form f) ks = .yes bs → weights ks ≤ 100000000 → bs.flatten.length ≤ 9 * weights ks
  | f, [], bs, h, _ => by unfold allP at h; cases h; simp
  | f, v :: l, bs, h, hw => by
    unfold allP at h
    split at h
    · cases h
    · rename_i b hb
      split at h
      · cases h
      · rename_i bs' hbs
        cases h
        simp only [weights] at hw ⊢
        have h1 := len_weight form f v b hb (by omega)
        have h2 := len_weights form f l bs' hbs (by omega)
        simp only [List.flatten_cons, List.length_append]
        omega
end
theorem top_open {form : Form} {v : DV} {b : Bs} (h : writeTop form v = .yes b) : writeP form 17 v = .yes b ∧ b.length ≤ 65536 ∧ 0 < b.length := by
  unfold writeTop at h
  split at h
  · cases h
  · rename_i w hw
    split at h
    · cases h
    · cases h
      exact ⟨hw, by omega, (value_there form 17 v _ [] hw (by omega)).1⟩
theorem cut_read {form : Form} {v : DV} {b : Bs} (h : writeTop form v = .yes b) {k : Nat} (hk : k < b.length) : readP form (b.take k) = .no 20 := by
  obtain ⟨hw, hl, _⟩ := top_open h
  unfold readP
  rw [if_neg (by rw [List.length_take]; omega), value_cut form hw (by omega) hk 16]
theorem more_read {form : Form} {v : DV} {b m : Bs} (h : writeTop form v = .yes b) (hm : m ≠ []) (hl2 : b.length + m.length ≤ 65536) : readP form (b ++ m) = .no 26 := by
  obtain ⟨hw, hl, _⟩ := top_open h
  unfold readP
  rw [if_neg (by rw [List.length_append]; omega), (value_there form 17 v b m hw (by omega)).2]
  simp only []
  rw [if_pos (List.length_pos_iff.2 hm)]
set_option maxRecDepth 100000 in
set_option maxHeartbeats 4000000 in
theorem cuts_true {R : World → Prop} (C : Der R) (w0 : World) (hR : R w0) (S : Nat → Prop) (cs : List Value) (v : DV) (hv : ValAt S w0 cs v) (at_ : Int) (xm : Value) (m : Bs) (hm : BytesAt w0 xm m) (lm : (m.length : Int) ≤ 9223372036854775807) :
    Calls Tryd.prog 7 #[.agg cs.toArray, .int .i64 at_, xm] w0 fun e w' => e = .returned (.bool true) ∧ Below w0.heap.size w0 w' := by
  obtain ⟨s1, c1, s2, c2, rfl⟩ := hv.form
  obtain ⟨sm, cm, rfl, _, _, _⟩ := bytes_open hm
  obtain ⟨n, hv⟩ := hv
  obtain ⟨kc, hkc⟩ : ∃ kc, v.cls = kc := ⟨_, rfl⟩
  obtain ⟨kt, hkt⟩ : ∃ kt, v.tag = kt := ⟨_, rfl⟩
  obtain ⟨km, hkm⟩ : ∃ km, v.made = km := ⟨_, rfl⟩
  obtain ⟨kl, hkl⟩ : ∃ kl, v.bytes.length = kl := ⟨_, rfl⟩
  obtain ⟨kk, hkk⟩ : ∃ kk, v.kids.length = kk := ⟨_, rfl⟩
  obtain ⟨M, hM⟩ : ∃ M, m.length = M := ⟨_, rfl⟩
  simp only [hkc, hkt, hkm, hkl, hkk, hM] at hv hm lm ⊢
  have HMl : Hid (m.length = M) := hM
  clear hkc hkt hkm hkl hkk hM
  obtain ⟨w1, hw1⟩ : ∃ w1, w0.alloc (.cells #[.int .i64 kc, .int .i64 kt, .bool km, .slice s1 kl c1, .slice s2 kk c2] 26) = w1 := ⟨_, rfl⟩
  have hb1 : Below w0.heap.size w0 w1 := by rw [← hw1]; exact (Below.refl _ _).alloc (Nat.le_refl _) _
  have HA : Hid (CellsAt w1 w0.heap.size 0 (dcells kc kt km (.slice s1 kl c1) (.slice s2 kk c2))) := by rw [← hw1]; exact cells_new w0 _ 26
  have HC := hide C
  have HR : Hid (∀ w, Below w0.heap.size w0 w → R w) := fun w hb => C.below _ _ hR hb
  have HV : Hid (∀ w, Below w0.heap.size w0 w → VAt n S w (dcells kc kt km (.slice s1 kl c1) (.slice s2 kk c2)) v) := fun w hb => hv.below hb
  have HXM : Hid (∀ w, Below w0.heap.size w0 w → BytesAt w (.slice sm M cm) m) := fun w hb => hm.below hb
  have Hb1 := hide hb1
  have Hanc := hide (anchor_any C w1 (unhide HR w1 hb1))
  obtain ⟨A, hA⟩ : ∃ A, w0.heap.size = A := ⟨_, rfl⟩
  rw [hA] at HA
  have HK : Hid (∀ w, Below w1.heap.size w1 w → w.cell? ⟨A, 0, none⟩ = some (.int .i64 kc) ∧ w.cell? ⟨A, 1, none⟩ = some (.int .i64 kt) ∧ w.cell? ⟨A, 2, none⟩ = some (.bool km) ∧ w.cell? ⟨A, 3, none⟩ = some (.slice s1 kl c1) ∧ w.cell? ⟨A, 4, none⟩ = some (.slice s2 kk c2)) := fun w hb => ((unhide HA).below hb).five0
  clear C hR hv hb1 HA hm
  unfold dcells
  go_enter Tryd.func7, Tryd.ntmps7
  go_wp2_with fail
  refine (unhide Hanc).mono ?_
  rintro e w2 ⟨rfl, hb2⟩
  have Hb12 := hide hb2
  have Hb2 := hide ((unhide Hb1).trans (hb2.mono (unhide Hb1).size))
  obtain ⟨a0, a1, a2, a3, a4⟩ := unhide HK w2 hb2
  have Hsp := hide (spent_any S n v w2 _ 30 3000 (unhide HV w2 (unhide Hb2)) (by omega) (by omega))
  unfold dcells at Hsp
  clear hb2 Hanc hw1 hA
  go_wp2_with fail
  refine (unhide Hsp).mono ?_
  rintro e w3 ⟨r, rfl, hr1, hr2, hr3, hb3⟩
  have Hb13 := hide ((unhide Hb12).trans (hb3.mono (unhide Hb12).size))
  have Hb3 := hide ((unhide Hb2).trans (hb3.mono (unhide Hb2).size))
  clear hb3 Hsp a0 a1 a2 a3 a4
  by_cases hr0 : r < 0
  · obtain rfl : r = -1 := by omega
    go_wp2
    go_ret
    exact ⟨rfl, unhide Hb3⟩
  obtain ⟨r, rfl⟩ : ∃ k : Nat, r = (k : Int) := ⟨r.toNat, by omega⟩
  have f1 : decide ((r : Int) < 0) = false := by simp
  have hwt : weight v ≤ 3000 := by have := hr3 (by omega); omega
  have Hwt := hide hwt
  by_cases ha0 : at_ < 0
  · have f2 : decide (at_ < 0) = true := by simp; omega
    clear hr1 hr2 hr3 hr0 hwt
    go_wp2
    go_ret
    exact ⟨rfl, unhide Hb3⟩
  have f2 : decide (at_ < 0) = false := by simp; omega
  obtain ⟨at_, rfl⟩ : ∃ k : Nat, at_ = (k : Int) := ⟨at_.toNat, by omega⟩
  by_cases hM0 : M = 0
  · subst hM0
    clear hr1 hr2 hr3 hr0 hwt
    go_wp2
    go_ret
    exact ⟨rfl, unhide Hb3⟩
  have f3 : ((M : Int) == 0) = false := by simp; omega
  by_cases hM1 : 100 < M
  · have f4 : decide ((100 : Int) < (M : Int)) = true := by simp; omega
    have f4n : decide (100 < M) = true := by simp; omega
    clear hr1 hr2 hr3 hr0 hwt
    go_wp2
    go_ret
    exact ⟨rfl, unhide Hb3⟩
  have f4 : decide ((100 : Int) < (M : Int)) = false := by simp; omega
  have f4n : decide (100 < M) = false := by simp; omega
  have Hwr := hide ((unhide HC).write w3 S (dcells kc kt km (.slice s1 kl c1) (.slice s2 kk c2)) v (unhide HR w3 (unhide Hb3)) ⟨n, unhide HV w3 (unhide Hb3)⟩ (by omega))
  obtain ⟨a0, a1, a2, a3, a4⟩ := unhide HK w3 (unhide Hb13)
  unfold dcells at Hwr
  have HM1 : Hid (M ≤ 100 ∧ m ≠ []) := ⟨by omega, fun e => hM0 (by have := unhide HMl; rw [e] at this; simpa using this.symm)⟩
  clear hr1 hr2 hr3 hr0 hwt ha0 hM0 hM1
  go_wp2_with fail
  refine (unhide Hwr).mono ?_
  rintro e w4 ⟨x, rfl, hO, hb4⟩
  have Hb4 := hide ((unhide Hb3).trans (hb4.mono (unhide Hb3).size))
  obtain ⟨px, qx, rfl⟩ := hO.form
  have HO := hide hO
  clear hO hb4 Hwr a0 a1 a2 a3 a4 HK
  cases hW : writeTop formD v with
  | no en =>
    have hpos := top_pos formD v en hW
    rw [hW] at HO
    simp only [errOf, bytesOf, List.length_nil]
    have e1 : ((en : Int) == 0) = false := by simp; omega
    have e2 : ((en : Int) != 0) = true := by simp; omega
    clear hW HO
    go_wp2
    go_ret
    exact ⟨by first | rfl | (show Ending.returned (Value.bool ((en : Int) != 0)) = _; rw [e2]), unhide Hb4⟩
  | yes b =>
    obtain ⟨hwp, hlen, hpos⟩ := top_open hW
    have hl9 := len_weight formD 17 v b hwp (by have := unhide Hwt; omega)
    have hcut : readP formD (b.take (at_ % b.length)) = .no 20 := cut_read hW (Nat.mod_lt _ hpos)
    have hmore : readP formD (b ++ m) = .no 26 := more_read hW (unhide HM1).2 (by have h1 := unhide Hwt; have h2 := (unhide HM1).1; have h3 := unhide HMl; omega)
    rw [hW] at HO
    simp only [errOf, bytesOf] at HO ⊢
    have HB4 := hide (unhide HO).bytes
    obtain ⟨sp4, cp4, ex4, hcap, _, _⟩ := bytes_open (unhide HB4)
    simp only [Value.slice.injEq] at ex4
    obtain ⟨rfl, _, rfl⟩ := ex4
    have hkN : at_ % b.length < b.length := Nat.mod_lt _ hpos
    obtain ⟨k, hk⟩ : ∃ k, at_ % b.length = k := ⟨_, rfl⟩
    have hki : (at_ : Int) % (b.length : Int) = (k : Int) := by rw [← hk]; rfl
    rw [hk] at hkN hcut
    have hsl := slice_front px b.length qx k (by omega)
    have HX4 := hide (bytes_front (unhide HB4) k (by omega))
    have Hrd := hide ((unhide HC).read w4 _ (b.take k) (unhide HR w4 (unhide Hb4)) (unhide HX4) (by rw [List.length_take]; omega))
    rw [hcut] at Hrd
    simp only [errOf, valOf] at Hrd
    have Hmore := hide hmore
    have HLb : Hid (b.length ≤ 65536) := hlen
    have n0 : ((b.length : Int) == 0) = false := by simp; intro e0; rw [e0] at hpos; simp at hpos
    obtain ⟨NB, hNB⟩ : ∃ NB, b.length = NB := ⟨_, rfl⟩
    simp only [hNB] at hki hsl n0 HB4 ⊢
    have nz : ¬ (NB : Int) = 0 := by have := hpos; omega
    clear hW HO hmore hcut hwp hl9 hlen hpos hk hNB hcap HX4
    go_wp2_with fail
    refine (unhide Hrd).mono ?_
    rintro e w5 ⟨cs5, rfl, ⟨n5, hv5⟩, hb5⟩
    obtain ⟨r1, t1, r2, t2, rfl⟩ := hv5.form
    simp only [DV.cls, DV.tag, DV.made, DV.bytes, DV.kids, List.length_nil]
    unfold dcells
    obtain ⟨w6, hw6⟩ : ∃ w6, w5.alloc (.cells #[.int .i64 0, .int .i64 0, .bool false, .slice r1 0 t1, .slice r2 0 t2] 26) = w6 := ⟨_, rfl⟩
    have hb6 : Below w5.heap.size w5 w6 := by rw [← hw6]; exact (Below.refl _ _).alloc (Nat.le_refl _) _
    have hb46 := hb5.trans (hb6.mono hb5.size)
    have Hb6 := hide ((unhide Hb4).trans (hb46.mono (unhide Hb4).size))
    have Hjn := hide (join_any w6 _ _ b m ((unhide HB4).below hb46) (unhide HXM w6 (unhide Hb6)) (by have h1 := unhide HLb; have h2 := (unhide HM1).1; have h3 := unhide HMl; omega))
    clear hb5 hb6 hb46 hv5 Hrd hsl hki
    go_wp2_with fail
    refine (unhide Hjn).mono ?_
    rintro e w7 ⟨x7, rfl, hR7⟩
    have Hb7 := hide ((unhide Hb6).trans (hR7.b.mono (unhide Hb6).size))
    have Hrd := hide ((unhide HC).read w7 _ (b ++ m) (unhide HR w7 (unhide Hb7)) hR7.bytes (by rw [List.length_append]; have h1 := unhide HLb; have h2 := (unhide HM1).1; have h3 := unhide HMl; omega))
    rw [unhide Hmore] at Hrd
    simp only [errOf, valOf] at Hrd
    clear hR7 Hjn hw6
    go_wp2_with fail
    refine (unhide Hrd).mono ?_
    rintro e w8 ⟨cs8, rfl, ⟨n8, hv8⟩, hb8⟩
    obtain ⟨u1, u2, u3, u4, rfl⟩ := hv8.form
    simp only [DV.cls, DV.tag, DV.made, DV.bytes, DV.kids, List.length_nil]
    unfold dcells
    have Hb8 := hide ((unhide Hb7).trans (hb8.mono (unhide Hb7).size))
    clear hb8 hv8 Hrd
    go_wp2
    go_ret
    exact ⟨rfl, (unhide Hb8).alloc (unhide Hb8).size _⟩
end Go.Proofs.YtngkidlgcdofhaaDoor
