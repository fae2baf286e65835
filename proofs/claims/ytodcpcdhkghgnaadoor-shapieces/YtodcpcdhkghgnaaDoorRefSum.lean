/-
  The reference's sum, walked whole.
-/
import Derived.Test.YtodcpcdhkghgnaaDoorRefBlocks
namespace Go.Proofs.YtodcpcdhkghgnaaDoor
open Go.RowKit
theorem byte_form2 (told k : Nat) : (told : Int) * 8 / 2 ^ (56 - 8 * k) % 256 = ib (byteAt (8 * told) k) := by
  rw [← byte_form told k, Int.mul_comm]
theorem OwnB.form {w : World} {B : Nat} {v : Value} {l : List UInt8} (h : OwnB w B v l) : ∃ sp c, v = .slice sp l.length c := by
  obtain ⟨sp, c, e, _⟩ := h.bytes
  exact ⟨sp, c, e⟩
theorem built_H : Tryd.prog.built 39 [(0, .int .u32 1779033703), (1, .int .u32 3144134277), (2, .int .u32 1013904242), (3, .int .u32 2773480762), (4, .int .u32 1359893119), (5, .int .u32 2600822924), (6, .int .u32 528734635), (7, .int .u32 1541459225)] = some (hTab.map wv).toArray := by kernel_rfl
set_option maxRecDepth 1000000 in
set_option maxHeartbeats 4000000 in
theorem refSum_any (w : World) (sp : Option Addr) (c : Nat) (l : List UInt8) (hx : BytesAt w (.slice sp l.length c) l) (hl : l.length ≤ 1048576) :
    Calls Tryd.prog 11 #[.slice sp l.length c] w fun e w' => ∃ v, e = .returned v ∧ OwnB w' w.heap.size v (shaOf l) ∧ Below w.heap.size w w' := by
  generalize hz : (119 - l.length % 64) % 64 = z
  have hz63 : z ≤ 63 := by omega
  have hb1 : Below w.heap.size w (w.alloc (.cells #[] 5)) := (Below.refl _ _).alloc (Nat.le_refl _) _
  have hO0 : OwnB (w.alloc (.cells #[] 5)) w.heap.size (.slice (some ⟨w.heap.size, 0, none⟩) 0 0) [] :=
    ⟨rfl, Or.inr ⟨w.heap.size, 0, #[], rfl, Nat.le_refl _, heap_alloc_new w _, Nat.le_refl _, Nat.zero_le _, rfl, rfl⟩⟩
  have Hx1 := hide (hx.below hb1)
  have HO0 := hide hO0
  have Hb1 := hide hb1
  have Hz := hide hz
  have hll : (l.length : Int) ≤ 1048576 := by omega
  clear hb1 hO0 hz hx
  go_enter Tryd.func11, Tryd.ntmps11
  go_wp2_with (first
    | (at_builtin; refine wpList_append_bytes rfl _ _ rfl w.heap.size (.slice (some ⟨w.heap.size, 0, none⟩) 0 0) (.slice sp l.length c) [] l rfl (unhide HO0) rfl (unhide Hx1) (by simp) (by simp; omega) ?_; intro v1 w1 hO1 hg1; have hs1 : w.heap.size ≤ w1.heap.size := by (have := hg1.size; simp at this; omega))
    | (at_builtin; refine wpList_append_bytes rfl _ _ rfl w.heap.size v1 (.slice (some ⟨w1.heap.size, 0, none⟩) 1 1) l [128] rfl (OwnB.alloc hO1 _) rfl (bytes_new w1 [128] 5 (by simp)) (by simp; omega) (by simp; omega) ?_; intro v2 w2 hO2 hg2))
  have hb1' : Below w.heap.size w w1 := Fresh.grown (unhide HO0) hg1 (unhide Hb1) (by simp)
  have hb2 : Below w.heap.size w w2 := Fresh.grown (OwnB.alloc hO1 _) hg2 (hb1'.alloc hs1 _) (by simp; omega)
  have HO2 := hide hO2
  have HB2 := hide hb2
  clear hO1 hg1 hO2 hg2 hb1' hb2 HO0 Hb1 Hx1
  go_loopw [3] (fun v wr => ∃ j : Nat, j ≤ z ∧ OwnB wr w.heap.size v (l ++ 128 :: List.replicate j 0) ∧ Below w.heap.size w wr) (fun v _ => l.length + 1 + z - lenVal v)
  case atStart => exact ⟨0, by omega, unhide HO2, unhide HB2⟩
  case round =>
    obtain ⟨j, hj, hO, hB⟩ := hrel
    clear HO2 HB2
    have hlm : (l ++ 128 :: List.replicate j (0 : UInt8)).length = l.length + 1 + j := by simp; omega
    obtain ⟨sp', c', rfl⟩ := hO.form
    rw [hlm] at hO ⊢
    generalize hN : l.length + 1 + j = N at hO hlm ⊢
    have HN := hide hN
    have hNb : N ≤ 1048640 := by omega
    have hS := hB.size
    have HO := hide hO
    have HB := hide hB
    have hzz := unhide Hz
    by_cases hlt : j < z
    · have ht : ((N : Int)).tmod 64 = ((N % 64 : Nat) : Int) := by rw [Int.tmod_eq_emod_of_nonneg (by omega)]; omega
      have hne : (((N % 64 : Nat) : Int) != 56) = true := by rw [bne_iff_ne]; omega
      clear hO hB hzz hN
      go_wp2_with (at_builtin; refine wpList_append_bytes rfl _ _ rfl w.heap.size (.slice sp' N c') (.slice (some ⟨wr.heap.size, 0, none⟩) 1 1) (l ++ 128 :: List.replicate j 0) [0] rfl (OwnB.alloc (unhide HO) _) rfl (bytes_new wr [0] 5 (by simp)) (by simp; omega) (by rw [hlm]; simp; omega) ?_; intro v3 w3 hO3 hg3)
      have hb3 : Below w.heap.size w w3 := Fresh.grown (OwnB.alloc (unhide HO) _) hg3 ((unhide HB).alloc hS _) (by simp; omega)
      have hO4 : OwnB w3 w.heap.size v3 (l ++ 128 :: List.replicate (j + 1) 0) := by
        have e : (l ++ 128 :: List.replicate j (0 : UInt8)) ++ [0] = l ++ 128 :: List.replicate (j + 1) 0 := by
          rw [List.replicate_succ']; simp
        rw [← e]; exact hO3
      obtain ⟨sp4, c4, rfl⟩ := hO4.form
      clear hO3 hg3
      go_roundw
      case rel =>
        first
          | exact ⟨j + 1, by omega, hO4, hb3⟩
          | ((repeat apply Exists.intro); exact ⟨⟨j + 1, by omega, hO4, hb3⟩, rfl⟩)
      case measure => (have := unhide HN; simp [lenVal]; omega)
    · obtain rfl : j = z := by omega
      have ht : ((N : Int)).tmod 64 = 56 := by rw [Int.tmod_eq_emod_of_nonneg (by omega)]; omega
      clear hO hB hzz hN
      go_wp2
      have hmz : l ++ 128 :: List.replicate j 0 = l ++ padHead l.length := by unfold padHead; rw [unhide Hz]
      rw [hmz] at HO
      clear hmz ht hlt hlm HN hNb
      go_loopw [3, 5] (fun v i wr => ∃ k : Nat, k ≤ 8 ∧ i = .int .i64 (56 - 8 * (k : Int)) ∧ OwnB wr w.heap.size v (l ++ padHead l.length ++ bytesTo (8 * l.length) k) ∧ Below w.heap.size w wr) (fun _ i _ => (intOf i + 8).toNat)
      case atStart => exact ⟨0, by omega, rfl, by rw [bytesTo, List.append_nil]; exact unhide HO, unhide HB⟩
      case round =>
        obtain ⟨k, hk, rfl, hO, hB⟩ := hrel
        clear HO HB
        have hS := hB.size
        by_cases hlt : k < 8
        · have hO1 := hide hO
          clear hO
          have hv : (l.length : Int) * 8 / 2 ^ (56 - 8 * k) % 256 = ib (byteAt (8 * l.length) k) := byte_form2 l.length k
          have HBk : Hid (bytesTo (8 * l.length) (k + 1) = bytesTo (8 * l.length) k ++ [byteAt (8 * l.length) k]) := rfl
          generalize byteAt (8 * l.length) k = B at hv HBk
          have hln : (l ++ padHead l.length ++ bytesTo (8 * l.length) k).length + 1 ≤ 1073741824 := by
            rw [List.length_append, List.length_append, length_bytesTo]; simp only [padHead, List.length_cons, List.length_replicate]; omega
          have Hln := hide hln
          clear hln
          have k8 : 8 * (k : Int) ≤ 56 := by omega
          go_wp2_with (at_builtin; refine wpList_append_bytes rfl _ _ rfl w.heap.size _ _ (l ++ padHead l.length ++ bytesTo (8 * l.length) k) [B] rfl ((unhide hO1).alloc _) rfl (bytes_new wr [B] 5 (by simp)) (by simp; omega) (unhide Hln) ?_; intro v' w' hO2 hg2)
          go_roundw
          case rel =>
            have hO3 : OwnB w' w.heap.size v' (l ++ padHead l.length ++ bytesTo (8 * l.length) (k + 1)) := by rw [unhide HBk, ← List.append_assoc]; exact hO2
            have hB3 : Below w.heap.size w w' := Fresh.grown ((unhide hO1).alloc _) hg2 (hB.alloc hS _) (by simp; omega)
            have hi : Value.int .i64 (56 - 8 * (k : Int) - 8) = .int .i64 (56 - 8 * ((k + 1 : Nat) : Int)) := congrArg _ (by omega)
            first
              | exact ⟨k + 1, by omega, hi, hO3, hB3⟩
              | ((repeat apply Exists.intro); exact ⟨⟨k + 1, by omega, hi, hO3, hB3⟩, rfl⟩)
          case measure => simp [intOf]; omega
        · obtain rfl : k = 8 := by omega
          have hpm : l ++ padHead l.length ++ bytesTo (8 * l.length) 8 = l ++ padOf l.length := by unfold padOf; rw [List.append_assoc]
          rw [hpm] at hO
          obtain ⟨mb, mo, cm, rfl, hcm, _⟩ := hO.bytes.cell (by unfold padOf padHead; simp)
          have HM := hide hO.bytes
          have HB := hide hB
          generalize hM : l ++ padOf l.length = M at HM hcm ⊢
          have HMe := hide hM
          have hMl : M.length % 64 = 0 ∧ M.length ≤ 1048800 ∧ M ≠ [] := by
            refine ⟨by rw [← hM, List.length_append]; exact length_padOf l.length, ?_, ?_⟩
            · rw [← hM]; unfold padOf padHead; simp only [List.length_append, List.length_cons, List.length_replicate, length_bytesTo]; omega
            · rw [← hM]; unfold padOf padHead; simp
          have hbH := built_H
          have hzH : (hTab.map wv).toArray.size = 8 := rfl
          have h1H := one_words hTab
          have hne0 : Value.ownBlock (.slice (some ⟨mb, mo, none⟩) M.length cm) ≠ some wr.heap.size := fun e => by have := (unhide HM).old hMl.2.2 _ e; omega
          have hbW : Below wr.heap.size wr (wr.alloc (.cells (hTab.map wv).toArray 39)) := (Below.refl _ _).alloc (Nat.le_refl _) _
          have hHW : (wr.alloc (.cells (hTab.map wv).toArray 39)).heap[wr.heap.size]? = some (.cells (hTab.map wv).toArray 39 (0, 0)) := heap_alloc_new _ _
          have hrw := fun (c : Array Value) => World.setRow_alloc_new wr c (hTab.map wv).toArray 39
          generalize hE1 : wr.alloc (.cells (hTab.map wv).toArray 39) = W1 at hbW hHW hrw
          have hsW : W1.heap.size = wr.heap.size + 1 := by rw [← hE1]; simp
          generalize hhh : (hTab.map wv).toArray = hh at hbH hzH h1H hHW hrw hE1
          have Hhh := hide hhh
          have HbH := hide hbH
          have H1H := hide h1H
          have HbW := hide hbW
          have HHW := hide hHW
          have Hne0 := hide hne0
          have HsW := hide hsW
          have HMl := hide hMl
          generalize hHb : wr.heap.size = Hb at *
          clear hO hB hM hhh hbH h1H hlt hk hpm hbW hHW hE1 hne0 hsW hMl
          go_wp2_with (first | (refine wpList_build_of rfl 39 _ rfl hh (by simp [go_sem, unhide HbH]) ?_) | (refine wpList_store_row rfl 39 _ _ rfl Hb hh rfl rfl 39 _ (by rw [← hHb]; exact heap_alloc_new wr _) (by rw [hzH]; kernel_rfl) (by rw [hzH]; rfl) (unhide H1H) ?_))
          refine (refK_any W1).mono ?_
          rintro e w2 ⟨rfl, hb2⟩
          have hRA : RefAt w Hb w2.heap.size (.slice (some ⟨mb, mo, none⟩) M.length cm) M hTab (w2.alloc (.cells (kTab.map wv).toArray 40)) := by
            have hs2 := hb2.size
            have hsW := unhide HsW
            have b3 : Below w2.heap.size w2 (w2.alloc (.cells (kTab.map wv).toArray 40)) := (Below.refl _ _).alloc (Nat.le_refl _) _
            have b02 : Below wr.heap.size wr w2 := by rw [hHb]; exact (unhide HbW).trans (hb2.mono (by omega))
            have b03 : Below wr.heap.size wr (w2.alloc (.cells (kTab.map wv).toArray 40)) := b02.trans (b3.mono b02.size)
            refine ⟨?_, heap_alloc_new _ _, (unhide HM).below b03, (unhide HB).trans (b03.mono (unhide HB).size), by rw [← hHb]; exact (unhide HB).size, by omega, unhide Hne0⟩
            rw [heap_alloc_old _ _ (by omega), hb2.block _ (by omega), unhide Hhh]; exact unhide HHW
          have hzK : (kTab.map wv).toArray.size = 64 := rfl
          have h1K := one_words kTab
          have hrw2 := fun (c : Array Value) => World.setRow_alloc_new w2 c (kTab.map wv).toArray 40
          have hs3 : (w2.alloc (.cells (kTab.map wv).toArray 40)).heap.size = w2.heap.size + 1 := by simp
          generalize w2.alloc (.cells (kTab.map wv).toArray 40) = W3 at hRA hrw2 hs3
          generalize (kTab.map wv).toArray = kk at hzK h1K hrw2 ⊢
          have HRA := hide hRA
          have H1K := hide h1K
          generalize hKb : w2.heap.size = Kb at *
          have HKb := hide hKb
          have HHb := hide hHb
          clear hRA h1K hb2 HM HB Hhh HbH H1H HbW HHW Hne0 HsW hrw hzH
          go_wp2_with (refine wpList_store_row rfl 40 _ _ rfl Kb kk rfl rfl 40 _ (by rw [← hKb]; exact heap_alloc_new w2 _) (by rw [hzK]; kernel_rfl) (by rw [hzK]; rfl) (unhide H1K) ?_)
          have hM3 := unhide HMl
          refine ref_blocks w Hb Kb mb mo cm M hM3.1 hM3.2.1 hcm W3 (unhide HRA) _ _ _ _ _ _ _ _ _ _ _ _ _ _ _ _ _ _ _ _ _ _ _ _ _ _ _ _ _ _ _ _ _ _ _ _ _ _ _ _ _ _ _ _ _ _ _ _ _ _ _ _ _ _ _ _ _ _ _ _ _ _ _ _ _ _ _ _ _ _ _ _ _ _ _ _ _ _ _ _ _ _ _ _ _ _ _ _ _ _ _ _ _ _ _ _ _ _ _ _ _ _ _ _ _ _ _ _ _ _ _ _ _ _ _ _ _ _ _ _ _ _ _ _ _ _ _ _ _ _ _ _ _ _ _ _ _ _ _ _ _ _ _ _ _ _ _ _ _ _ _ _ _ _ _ _ _ _ _ _ _ _ _ _ _ _ _ _ _ _ _ _ _ _ _ _ _ _ _ _ _ _ _ _ _ _ _ _ _ _ _ _ _ _ _ _ _ _ _ _ _ _ _ _ _ _ _ _ _ _ _ _ _ _ _ _ _ _ _ _ _ _ _ _ _ _ _ _ _ _ _ _ _ _ _ _ _ _ _ _ _ _ _ _ _ _ _ _ _ _ _ ?_
          intro u8 u9 u10 u11 u12 u13 u14 u15 u16 u17 u18 u19 u20 u21 u22 u23 u24 u25 u26 u27 u28 u29 u30 u31 u32 u33 u34 u35 u36 u37 u38 u39 u40 u41 u42 u43 u44 u45 u46 u47 u48 u49 u50 u51 u52 u53 u54 u55 u56 u57 u58 u59 u60 u61 u62 u63 u64 u65 u66 u67 u68 u69 u70 u71 u72 u73 u74 u75 u76 u77 u78 u79 u80 u81 u82 u83 u84 u85 u86 u87 u88 u89 u90 u91 u92 u93 u94 u95 u96 u97 u98 u99 u100 u101 u102 u103 u104 u105 u106 u107 u108 u109 u110 u111 u112 u113 u114 u115 u116 u117 u118 u119 u120 u121 u122 u123 u124 u125 u126 u127 u128 u129 u130 u131 u132 u133 u134 u135 u136 u137 u138 u139 u140 u141 u142 u143 u144 u145 u146 u147 u148 u149 u150 u151 u152 u153 u154 u155 u156 u157 u158 u159 u160 u161 u162 u163 u164 u165 u166 u167 u168 u169 u170 u171 u172 u173 u174 u175 u176 u177 u178 u179 u180 u181 u182 u183 u184 u185 u186 u187 u188 u189 u190 u191 u192 u193 u194 u195 u196 u197 u198 u199 u200 u201 u202 u203 u204 u205 u206 u207 u208 u209 u210 u211 u212 u213 u214 u215 u216 u217 u218 u219 u220 u221 u222 u223 u224 u225 u226 u227 u228 u229 u230 u231 u232 u233 u234 u235 u236 u237 u238 u239 u240 u241 u242 u243 u244 u245 u246 u247 u248 u249 u250 u251 u252 u253 w4 hR4
          have hs4 := hR4.bel.size
          have HR4 := hide hR4
          clear hM3 hR4 HRA hrw2 hzK H1K
          go_wp2
          refine ref_out (stTo M (M.length / 64)) (length_stTo _ _) Hb w4 (unhide HR4).h _ _ _ _ _ _ _ _ _ _ _ _ _ _ _ _ _ _ _ _ _ _ _ _ _ _ _ _ _ _ _ _ _ _ _ _ _ _ _ _ _ _ _ _ _ _ _ _ _ _ _ _ _ _ _ _ _ _ _ _ _ _ _ _ _ _ _ _ _ _ _ _ _ _ _ _ _ _ _ _ _ _ _ _ _ _ _ _ _ _ _ _ _ _ _ _ _ _ _ _ _ _ _ _ _ _ _ _ _ _ _ _ _ _ _ _ _ _ _ _ _ _ _ _ _ _ _ _ _ _ _ _ _ _ _ _ _ _ _ _ _ _ _ _ _ _ _ _ _ _ _ _ _ _ _ _ _ _ _ _ _ _ _ _ _ _ _ _ _ _ _ _ _ _ _ _ _ _ _ _ _ _ _ _ _ _ _ _ _ _ _ _ _ _ _ _ _ _ _ _ _ _ _ _ _ _ _ _ _ _ _ _ _ _ _ _ _ _ _ _ _ _ _ _ _ _ _ _ _ _ _ _ _ _ _ _ _ _ _ _ _ _ _ _ _ _ _ _ _ _ _ _ ?_
          intro v u21 u236 u237 u238 u239 u240 u241 u242 u243 u244 u245 u246 u247 u248 u249 u250 u251 u252 w5 hO5 hB5
          have hO6 : OwnB w5 w.heap.size v (shaOf l) := by rw [sha_blocks, unhide HMe]; exact hO5.mono hs4
          have hB6 : Below w.heap.size w w5 := (unhide HR4).bel.trans (hB5.mono hs4)
          have HO6 := hide hO6
          have HB6 := hide hB6
          clear hO5 hB5 hO6 hB6 HR4
          go_wp2
          go_ret
          exact ⟨_, rfl, unhide HO6, unhide HB6⟩
end Go.Proofs.YtodcpcdhkghgnaaDoor
