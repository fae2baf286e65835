/-
  The walk of the statement DerBack.
-/
import Derived.Test.YtngkidlgcdofhaaDoorCuts9
namespace Go.Proofs.YtngkidlgcdofhaaDoor
open Go.RowKit
theorem write_read' {b : Bs} {v : DV} (h : readP formD b = .yes v) : writeTop formD v = .yes b := write_read h
/-- A row of bytes that is being written over: the cells from i on are as they were. -/
def Over (wb w : World) (G : Nat) (rest : List Value) (b : Bs) (i : Nat) : Prop :=
  ∃ cs : List Value, cs.length = b.length ∧ RowAt 5 w G rest cs ∧ (∀ j, i ≤ j → j < b.length → cs.getD j undef = bv (b.getD j 0)) ∧ wb.grownBy w (some G)
theorem Over.cell {wb w : World} {G : Nat} {rest : List Value} {b : Bs} {i : Nat} (h : Over wb w G rest b i) (hi : i < b.length) : w.cell? ⟨G, i, none⟩ = some (bv (b.getD i 0)) ∧ w.frozen? ⟨G, i, none⟩ = false := by
  obtain ⟨cs, hl, hr, hc, _⟩ := h
  refine ⟨?_, hr.frozen i⟩
  rw [hr.cell i (by omega), hc i (Nat.le_refl _) hi]
theorem Over.set {wb w : World} {G : Nat} {rest : List Value} {b : Bs} {i : Nat} (h : Over wb w G rest b i) (hi : i < b.length) (u : Value) : Over wb (w.setCell ⟨G, i, none⟩ u) G rest b (i + 1) := by
  obtain ⟨cs, hl, hr, hc, hg⟩ := h
  refine ⟨cs.set i u, by simpa using hl, hr.set i (by omega) u, fun j h1 h2 => ?_, grown_setCell hg ⟨G, i, none⟩ u rfl⟩
  rw [← hc j (by omega) h2, List.getD_eq_getElem?_getD, List.getElem?_set_ne (by omega), ← List.getD_eq_getElem?_getD]
set_option maxRecDepth 100000 in
set_option maxHeartbeats 4000000 in
theorem back_true {R : World → Prop} (C : Der R) (w0 : World) (hR : R w0) (x : Value) (b : Bs) (hx : BytesAt w0 x b) (lb : (b.length : Int) ≤ 9223372036854775807) :
    Calls Tryd.prog 5 #[x] w0 fun e w' => e = .returned (.bool true) ∧ Below w0.heap.size w0 w' := by
  obtain ⟨sx, cx, rfl, _, _, _⟩ := bytes_open hx
  have HC := hide C
  have HR : Hid (∀ w, Below w0.heap.size w0 w → R w) := fun w hb => C.below _ _ hR hb
  have HX : Hid (∀ w, Below w0.heap.size w0 w → BytesAt w (.slice sx b.length cx) b) := fun w hb => hx.below hb
  have Hanc := hide (anchor_any C w0 hR)
  clear C hR hx
  go_enter Tryd.func5, Tryd.ntmps5
  go_wp2_with fail
  refine (unhide Hanc).mono ?_
  rintro e w1 ⟨rfl, hb1⟩
  have Hb1 := hide hb1
  clear hb1 Hanc
  by_cases hL : 3000 < b.length
  · have d1 : decide ((3000 : Int) < (b.length : Int)) = true := by simp; omega
    have d1n : decide (3000 < b.length) = true := by simp; omega
    go_wp2
    go_ret
    exact ⟨rfl, unhide Hb1⟩
  have d1 : decide ((3000 : Int) < (b.length : Int)) = false := by simp; omega
  have d1n : decide (3000 < b.length) = false := by simp; omega
  have HLb : Hid (b.length ≤ 3000) := by show _ ≤ _; omega
  clear hL
  have HOA := hide (ownb_empty w1)
  have HbA : Hid (Below w1.heap.size w1 (w1.alloc (.cells #[] 5))) := (Below.refl _ _).alloc (Nat.le_refl _) _
  have HXA := hide (unhide HX _ ((unhide Hb1).trans ((unhide HbA).mono (unhide Hb1).size)))
  have Hs1 : Hid (w1.heap.size ≤ (w1.alloc (.cells #[] 5)).heap.size) := (unhide HbA).size
  have Hll : Hid (([] : Bs).length + b.length ≤ 1073741824) := by show _ ≤ _; have := unhide HLb; simp; omega
  go_wp2_with (first
    | (at_builtin; refine wpList_append_bytes rfl _ _ rfl w1.heap.size (.slice (some ⟨w1.heap.size, 0, none⟩) 0 0) (.slice sx b.length cx) [] b rfl (unhide HOA) rfl (unhide HXA) (unhide Hs1) (unhide Hll) ?_
       intro v2 w2 hO2 hg2 _
       have HO2 : Hid (OwnB w2 w1.heap.size v2 b) := hO2
       have HB2 := hide (ownb_below (unhide HOA) hg2 (unhide HbA) (unhide Hs1))
       clear hO2 hg2))
  obtain ⟨p2, q2, rfl⟩ := (unhide HO2).form
  have Hb2 := hide ((unhide Hb1).trans ((unhide HB2).mono (unhide Hb1).size))
  have Hrd := hide ((unhide HC).read w2 _ b (unhide HR w2 (unhide Hb2)) (unhide HO2).bytes (by have := unhide HLb; omega))
  clear HOA HbA HXA Hs1 Hll
  refine (unhide Hrd).mono ?_
  rintro e w3 ⟨cs3, rfl, hv3, hb3⟩
  have Hb3 := hide ((unhide Hb2).trans (hb3.mono (unhide Hb2).size))
  have Hb23 := hide hb3
  cases hW : readP formD b with
  | no en =>
    have hpos : en ≠ 0 := read_pos hW
    rw [hW] at hv3
    simp only [errOf, valOf] at hv3 ⊢
    obtain ⟨s1, c1, s2, c2, rfl⟩ := hv3.form
    simp only [DV.cls, DV.tag, DV.made, DV.bytes, DV.kids, List.length_nil]
    unfold dcells
    obtain ⟨w4, hw4⟩ : ∃ w4, w3.alloc (.cells #[.int .i64 0, .int .i64 0, .bool false, .slice s1 0 c1, .slice s2 0 c2] 26) = w4 := ⟨_, rfl⟩
    have hb4 : Below w3.heap.size w3 w4 := by rw [← hw4]; exact (Below.refl _ _).alloc (Nat.le_refl _) _
    have hc4 : CellsAt w4 w3.heap.size 0 (dcells 0 0 false (.slice s1 0 c1) (.slice s2 0 c2)) := by rw [← hw4]; exact cells_new w3 _ 26
    obtain ⟨a0, a1, a2, a3, a4⟩ := hc4.five0
    have Hb4 := hide ((unhide Hb3).trans (hb4.mono (unhide Hb3).size))
    have e1 : ((en : Int) == 0) = false := by simp; omega
    clear hb4 hc4 hv3 hb3 hW Hrd
    go_wp2
    go_ret
    exact ⟨rfl, unhide Hb4⟩
  | yes v =>
    have hwr := write_read' hW
    have hne : b ≠ [] := fun e => by rw [e] at hW; cases hW
    have hwt : weight v ≤ 65536 := by have := read_light (form := formD) (b := b); rw [hW] at this; exact this
    rw [hW] at hv3
    simp only [errOf, valOf] at hv3 ⊢
    obtain ⟨n, hv3⟩ := hv3
    obtain ⟨s1, c1, s2, c2, rfl⟩ := hv3.form
    obtain ⟨kc, hkc⟩ : ∃ kc, v.cls = kc := ⟨_, rfl⟩
    obtain ⟨kt, hkt⟩ : ∃ kt, v.tag = kt := ⟨_, rfl⟩
    obtain ⟨km, hkm⟩ : ∃ km, v.made = km := ⟨_, rfl⟩
    obtain ⟨kl, hkl⟩ : ∃ kl, v.bytes.length = kl := ⟨_, rfl⟩
    obtain ⟨kk, hkk⟩ : ∃ kk, v.kids.length = kk := ⟨_, rfl⟩
    simp only [hkc, hkt, hkm, hkl, hkk] at hv3 ⊢
    clear hkc hkt hkm hkl hkk
    unfold dcells
    obtain ⟨w4, hw4⟩ : ∃ w4, w3.alloc (.cells #[.int .i64 kc, .int .i64 kt, .bool km, .slice s1 kl c1, .slice s2 kk c2] 26) = w4 := ⟨_, rfl⟩
    have hb4 : Below w3.heap.size w3 w4 := by rw [← hw4]; exact (Below.refl _ _).alloc (Nat.le_refl _) _
    have hc4 : CellsAt w4 w3.heap.size 0 (dcells kc kt km (.slice s1 kl c1) (.slice s2 kk c2)) := by rw [← hw4]; exact cells_new w3 _ 26
    have Hc4 := hide hc4
    have hb24 := hb3.trans (hb4.mono hb3.size)
    obtain ⟨G, rest, cap, eG, hG1, _, _, hrow⟩ := OwnV.row (unhide HO2) (by simpa using hne)
    simp only [Value.slice.injEq] at eG
    obtain ⟨rfl, _, rfl⟩ := eG
    have hG2 : G < w2.heap.size := hrow.lt
    have HOv : Hid (Over w4 w4 G rest b 0) := ⟨b.map bv, by simp, hrow.below hb24, fun j _ hj => by simp [List.getD_eq_getElem?_getD, hj], World.grownBy.refl _ _⟩
    have Hv4 := hide (hv3.below hb4)
    have HG : Hid (w1.heap.size ≤ G ∧ G < w2.heap.size ∧ w2.heap.size ≤ w3.heap.size) := ⟨hG1, hG2, hb3.size⟩
    have Hb4 := hide ((unhide Hb3).trans (hb4.mono (unhide Hb3).size))
    have Hwr := hide hwr
    have Hwt := hide hwt
    have Hhb := hide hW
    obtain ⟨T, hT⟩ : ∃ T, w3.heap.size = T := ⟨_, rfl⟩
    have Hs3 : Hid (w3.heap.size = T) := hT
    rw [hT] at Hc4 HG
    obtain ⟨N, hN⟩ : ∃ N, b.length = N := ⟨_, rfl⟩
    have HN := hide hN
    have Hst : Hid (∀ (i : Nat) (wr : World) (u : Value), i < N → Over w4 wr G rest b i → Over w4 (wr.setCell ⟨G, i, none⟩ u) G rest b (i + 1)) := fun i wr u hi h => h.set (by have := unhide HN; omega) u
    have Hce : Hid (∀ (i : Nat) (wr : World), i < N → Over w4 wr G rest b i → wr.cell? ⟨G, i, none⟩ = some (bv (b.getD i 0)) ∧ wr.frozen? ⟨G, i, none⟩ = false) := fun i wr hi h => h.cell (by have := unhide HN; omega)
    have nB : (N : Int) ≤ 3000 := by have := unhide HLb; omega
    simp only [hN]
    clear hb4 hc4 hv3 hb3 hb24 hW hwr hwt hne hrow hG1 hG2 HO2 Hrd hN d1 d1n lb
    go_wp2
    clear hw4 hT
    go_loopw [43] (fun ii wr => ∃ i : Nat, i ≤ N ∧ ii = .int .i64 (i : Int) ∧ Hid (Over w4 wr G rest b i)) (fun ii _ => N - (intOf ii).toNat)
    case atStart => exact ⟨0, by omega, rfl, HOv⟩
    case round =>
      obtain ⟨i, hi, rfl, HO⟩ := hrel
      by_cases hlt : i < N
      · obtain ⟨ci, fi⟩ := unhide Hce i wr hlt (unhide HO)
        have Hs2 : Hid (∀ u, Over w4 (wr.setCell ⟨G, i, none⟩ u) G rest b (i + 1)) := fun u => unhide Hst i wr u hlt (unhide HO)
        unfold bv at ci
        obtain ⟨p, hp⟩ : ∃ p, (b.getD i 0).toNat = p := ⟨_, rfl⟩
        rw [hp] at ci
        have d1 : decide ((i : Int) < (N : Int)) = true := by simp; omega
        have d1n : decide (i < N) = true := by simp; omega
        have i0 : (0 : Int) ≤ (i : Int) := by omega
        have i1 : (i : Int) < (N : Int) := by omega
        clear hp Hce Hst HOv
        go_wp2
        go_roundw
        case rel =>
          first
            | exact ⟨i + 1, by omega, by go_num, unhide Hs2 _⟩
            | ((repeat apply Exists.intro); exact ⟨⟨i + 1, by omega, by go_num, unhide Hs2 _⟩, rfl⟩)
        case measure => simp [intOf]; omega
      · obtain rfl : i = N := by omega
        have d1 : decide ((i : Int) < (i : Int)) = false := by simp
        obtain ⟨csx, _, _, _, hg⟩ := unhide HO
        have z := unhide HG
        have HbR := hide (grown_below' (unhide Hb4) hg (unhide Hb4).size (fun g e => by simp only [Option.some.injEq] at e; have := (unhide Hb1).size; omega))
        have HvR : Hid (VAt n (fun k => w2.heap.size ≤ k) wr (dcells kc kt km (.slice s1 kl c1) (.slice s2 kk c2)) v) := (unhide Hv4).kept hg (fun g e => by simp only [Option.some.injEq] at e; omega)
        have HcR : Hid (CellsAt wr T 0 (dcells kc kt km (.slice s1 kl c1) (.slice s2 kk c2))) := (unhide Hc4).kept hg (fun e => by simp only [Option.some.injEq] at e; omega)
        obtain ⟨a0, a1, a2, a3, a4⟩ := (unhide HcR).five0
        have HK : Hid (∀ w, Below wr.heap.size wr w → w.cell? ⟨T, 0, none⟩ = some (.int .i64 kc) ∧ w.cell? ⟨T, 1, none⟩ = some (.int .i64 kt) ∧ w.cell? ⟨T, 2, none⟩ = some (.bool km) ∧ w.cell? ⟨T, 3, none⟩ = some (.slice s1 kl c1) ∧ w.cell? ⟨T, 4, none⟩ = some (.slice s2 kk c2)) := fun w hb => ((unhide HcR).below hb).five0
        have Hw := hide ((unhide HC).write wr _ _ v (unhide HR wr (unhide HbR)) ⟨n, unhide HvR⟩ (by have := unhide Hwt; omega))
        rw [unhide Hwr] at Hw
        simp only [errOf, bytesOf] at Hw
        unfold dcells at Hw
        clear hg Hce Hst HOv HO Hc4 Hv4 z
        go_wp2_with fail
        refine (unhide Hw).mono ?_
        rintro e w5 ⟨x5, rfl, hO5, hb5⟩
        have HX5 := hide hO5.bytes
        obtain ⟨p5, q5, rfl⟩ := hO5.form
        have HbR5 := hide hb5
        have Hb5 := hide ((unhide HbR).trans (hb5.mono (unhide HbR).size))
        have Hrd := hide ((unhide HC).read w5 _ b (unhide HR w5 (unhide Hb5)) (unhide HX5) (by have := unhide HLb; omega))
        rw [unhide Hhb] at Hrd
        simp only [errOf, valOf] at Hrd
        simp only [unhide HN] at Hrd HX5 ⊢
        clear hO5 hb5 Hw a0 a1 a2 a3 a4
        go_wp2_with fail
        refine (unhide Hrd).mono ?_
        rintro e w6 ⟨cs6, rfl, ⟨n6, hv6⟩, hb6⟩
        have Hv6 := hide hv6
        obtain ⟨r1, t1, r2, t2, rfl⟩ := hv6.form
        have HbR6 := hide ((unhide HbR5).trans (hb6.mono (unhide HbR5).size))
        have Hb6 := hide ((unhide Hb5).trans (hb6.mono (unhide Hb5).size))
        have HX6 := hide ((unhide HX5).below hb6)
        obtain ⟨vc, hvc⟩ : ∃ vc, v.cls = vc := ⟨_, rfl⟩
        obtain ⟨vt, hvt⟩ : ∃ vt, v.tag = vt := ⟨_, rfl⟩
        obtain ⟨vm, hvm⟩ : ∃ vm, v.made = vm := ⟨_, rfl⟩
        obtain ⟨vl, hvl⟩ : ∃ vl, v.bytes.length = vl := ⟨_, rfl⟩
        obtain ⟨vk, hvk⟩ : ∃ vk, v.kids.length = vk := ⟨_, rfl⟩
        simp only [hvc, hvt, hvm, hvl, hvk] at Hv6 ⊢
        clear hvc hvt hvm hvl hvk hb6 hv6 Hrd
        unfold dcells
        obtain ⟨w7, hw7⟩ : ∃ w7, w6.alloc (.cells #[.int .i64 vc, .int .i64 vt, .bool vm, .slice r1 vl t1, .slice r2 vk t2] 26) = w7 := ⟨_, rfl⟩
        have hb7 : Below w6.heap.size w6 w7 := by rw [← hw7]; exact (Below.refl _ _).alloc (Nat.le_refl _) _
        have HD : Hid (CellsAt w7 w6.heap.size 0 (dcells vc vt vm (.slice r1 vl t1) (.slice r2 vk t2))) := by rw [← hw7]; exact cells_new w6 _ 26
        obtain ⟨B, hB⟩ : ∃ B, w6.heap.size = B := ⟨_, rfl⟩
        rw [hB] at HD
        have HL : Hid (∀ w, Below w7.heap.size w7 w → w.cell? ⟨B, 0, none⟩ = some (.int .i64 vc) ∧ w.cell? ⟨B, 1, none⟩ = some (.int .i64 vt) ∧ w.cell? ⟨B, 2, none⟩ = some (.bool vm) ∧ w.cell? ⟨B, 3, none⟩ = some (.slice r1 vl t1) ∧ w.cell? ⟨B, 4, none⟩ = some (.slice r2 vk t2)) := fun w hb => ((unhide HD).below hb).five0
        have HbR7 := hide ((unhide HbR6).trans (hb7.mono (unhide HbR6).size))
        have Hb7 := hide ((unhide Hb6).trans (hb7.mono (unhide Hb6).size))
        have Hv7 := hide ((unhide Hv6).below hb7)
        have HX7 := hide ((unhide HX6).below hb7)
        have HK7 : Hid (∀ w, Below w7.heap.size w7 w → w.cell? ⟨T, 0, none⟩ = some (.int .i64 kc) ∧ w.cell? ⟨T, 1, none⟩ = some (.int .i64 kt) ∧ w.cell? ⟨T, 2, none⟩ = some (.bool km) ∧ w.cell? ⟨T, 3, none⟩ = some (.slice s1 kl c1) ∧ w.cell? ⟨T, 4, none⟩ = some (.slice s2 kk c2)) := fun w hb => unhide HK w ((unhide HbR7).trans (hb.mono (unhide HbR7).size))
        obtain ⟨a0, a1, a2, a3, a4⟩ := unhide HK7 w7 (Below.refl _ _)
        obtain ⟨b0, b1, b2, b3, b4⟩ := unhide HL w7 (Below.refl _ _)
        have Hsm : Hid (Calls Tryd.prog 17 #[.slice sx i cx, .slice p5 i q5] w7.drew fun e w' => e = .returned (.bool true) ∧ Below w7.drew.heap.size w7.drew w') := by
          have h1 := unhide HX w7.drew (unhide Hb7).drew
          have h2 := (unhide HX7).drew
          rw [unhide HN] at h1
          have h3 := same_any w7.drew _ _ b b h1 h2 (by have := unhide HLb; omega)
          simp only [decide_true] at h3
          exact h3
        clear hb7 HK Hv6 HD HX6 HX5
        go_wp2
        clear hw7 hB
        go_region_held3 (fun w' => w'.cell? ⟨T, 0, none⟩ = some (.int .i64 kc) ∧ w'.cell? ⟨T, 1, none⟩ = some (.int .i64 kt) ∧ w'.cell? ⟨T, 2, none⟩ = some (.bool km) ∧ w'.cell? ⟨T, 3, none⟩ = some (.slice s1 kl c1) ∧ w'.cell? ⟨T, 4, none⟩ = some (.slice s2 kk c2) ∧ w'.cell? ⟨B, 0, none⟩ = some (.int .i64 vc) ∧ w'.cell? ⟨B, 1, none⟩ = some (.int .i64 vt) ∧ w'.cell? ⟨B, 2, none⟩ = some (.bool vm) ∧ w'.cell? ⟨B, 3, none⟩ = some (.slice r1 vl t1) ∧ w'.cell? ⟨B, 4, none⟩ = some (.slice r2 vk t2)) (go_keep)
          ((first
            | (go_at_call 17
               refine (unhide Hsm).mono ?_
               rintro e w8 ⟨rfl, hb8⟩
               have Hb78 : Hid (Below w7.heap.size w7 w8) := (Below.refl w7.heap.size w7).drew.trans hb8
               obtain ⟨a0, a1, a2, a3, a4⟩ := unhide HK7 w8 (unhide Hb78)
               obtain ⟨b0, b1, b2, b3, b4⟩ := unhide HL w8 (unhide Hb78)
               clear hb8)
            | (go_at_call 14
               refine (plain_any n _ v w8 (dcells kc kt km (.slice s1 kl c1) (.slice s2 kk c2)) ((unhide HvR).below ((unhide HbR7).trans ((unhide Hb78).mono (unhide HbR7).size))) (by have := unhide Hwt; omega)).mono ?_
               rintro e w9 ⟨ds, rfl, hv9, hb9⟩
               obtain ⟨u1, u2, u3, u4, rfl⟩ := hv9.form
               have Hv9 := hide hv9
               have Hb79 : Hid (Below w7.heap.size w7 w9) := (unhide Hb78).trans (hb9.mono (unhide Hb78).size)
               obtain ⟨a0, a1, a2, a3, a4⟩ := unhide HK7 w9 (unhide Hb79)
               obtain ⟨b0, b1, b2, b3, b4⟩ := unhide HL w9 (unhide Hb79)
               clear hv9 hb9
               unfold dcells)
            | (go_at_call 12
               refine (dsame_any _ _ n6 n v w9 (dcells vc vt vm (.slice r1 vl t1) (.slice r2 vk t2)) _ ((unhide Hv7).below (unhide Hb79)) (unhide Hv9) (by have := unhide Hwt; omega)).mono ?_
               rintro e w10 ⟨rfl, hb10⟩
               have Hb710 : Hid (Below w7.heap.size w7 w10) := (unhide Hb79).trans (hb10.mono (unhide Hb79).size)
               obtain ⟨a0, a1, a2, a3, a4⟩ := unhide HK7 w10 (unhide Hb710)
               obtain ⟨b0, b1, b2, b3, b4⟩ := unhide HL w10 (unhide Hb710)
               clear hb10)))
        go_wp2
        go_ret
        exact ⟨rfl, (unhide Hb7).trans ((unhide Hb710).mono (unhide Hb7).size)⟩
end Go.Proofs.YtngkidlgcdofhaaDoor
