/- Parts of the walk. -/
import Derived.Test.YtcofnockikninaaGreatDoorZgNj
import Derived.Test.YtcofnockikninaaGreatDoorZgPF
import Derived.Test.YtcofnockikninaaGreatDoorZgNf
import Derived.Deep.Cut
set_option maxRecDepth 100000
set_option maxHeartbeats 8000000
namespace Go.Proofs.YtcofnockikninaaGreatDoor
open Go.RowKit
namespace N
open K
theorem iskind_c (w : World) (k : Int) : Calls Tryz.prog 67 #[.int .i64 k] w fun e w' => e = .returned (.bool (kindP k)) ∧ w' = w := by
 obtain ⟨A, hA⟩ := exq (decide (k = 1))
 obtain ⟨B, hB⟩ := exq (decide (k = 2))
 obtain ⟨C, hC⟩ := exq (decide (k = 4))
 obtain ⟨D, hD⟩ := exq (decide (k = 6))
 obtain ⟨E, hE⟩ := exq (decide (k = 7))
 have HT : Hid (kindP k = (A || B || C || D || E)) := by show _ = _; unfold kindP; rw [hA, hB, hC, hD, hE]
 have key : ∀ (n : Int) (b : Bool), decide (k = n) = b → (k == n) = b := fun n b h => by rw [← h]; by_cases h2 : k = n <;> simp [h2]
 have a1 := key 1 A hA
 have b1 := key 2 B hB
 have c1 := key 4 C hC
 have d1 := key 6 D hD
 have e1 := key 7 E hE
 clear hA hB hC hD hE key
 cases A
 ·cases B
  ·cases C
   ·cases D
    ·cases E <;> (go_enter Tryz.func67, Tryz.ntmps67; go_wp2; go_ret; exact ⟨by rw [u_ HT]; rfl, rfl⟩)
    ·go_enter Tryz.func67, Tryz.ntmps67
     go_wp2
     go_ret
     exact ⟨by rw [u_ HT]; rfl, rfl⟩
   ·go_enter Tryz.func67, Tryz.ntmps67
    go_wp2
    go_ret
    exact ⟨by rw [u_ HT]; rfl, rfl⟩
  ·go_enter Tryz.func67, Tryz.ntmps67
   go_wp2
   go_ret
   exact ⟨by rw [u_ HT]; rfl, rfl⟩
 ·go_enter Tryz.func67, Tryz.ntmps67
  go_wp2
  go_ret
  exact ⟨by rw [u_ HT]; rfl, rfl⟩
theorem shr_and (p k : Nat) (hp : p < 256) : bits .and .u8 ((p / 2 ^ k : Nat) : Int) 1 = ((p / 2 ^ k % 2 : Nat) : Int) := by
 have h : p / 2 ^ k < 256 := Nat.lt_of_le_of_lt (Nat.div_le_self _ _) hp
 have key : ∀ x : Fin 256, bits .and .u8 ((x.val : Nat) : Int) 1 = ((x.val % 2 : Nat) : Int) := by decide +kernel
 exact key ⟨_, h⟩
theorem ismask_c (w : World) (s : ByteArray) (hs : s.size ≤ 1000000) : Calls Tryz.prog 112 #[.string s] w fun e w' => e = .returned (.bool (maskP (bs s))) ∧ w' = w := by
 obtain ⟨N, hN⟩ := exq s.size
 obtain ⟨L, hL⟩ := exq (8 * N)
 have eL : (8 : Int) * (N : Int) = (L : Int) := by omega
 have HL : Hid (maskP (bs s) = maskTo (bs s) L) := by show _ = _; unfold maskP; rw [bs_len, hN, hL]
 have hb0 : N ≤ 1000000 := by omega
 have HN := h_ hN
 have hLN := h_ hL
 have hL2 : L ≤ 8000000 := by omega
 clear hL hs
 go_enter Tryz.func112, Tryz.ntmps112
 go_wp2
 clear hN
 go_loopw [3, 9] (fun ee ii wr => ∃ (k : Nat) (u : Bool), k ≤ L ∧ ee = .bool u ∧ ii = .int .i64 (k : Int) ∧ wr = w ∧ Hid (maskTo (bs s) k = true) ∧ Hid (u = (!decide (k = 0) && !bitAt (bs s) (k - 1)))) (fun _ ii _ => L - (intOf ii).toNat)
 case atStart => exact ⟨0, false, by omega, rfl, rfl, rfl, rfl, rfl⟩
 case round =>
  obtain ⟨k, u, hk, rfl, rfl, hwr, HM, HU⟩ := hrel
  have := hwr.symm
  subst this
  by_cases hlt : k < L
  ·obtain ⟨f1, f1n⟩ := ltVV k L
   obtain ⟨q, hq⟩ := exq (k / 8)
   obtain ⟨r, hr⟩ := exq (k % 8)
   obtain ⟨t, ht⟩ := exq (7 - r)
   have eq : (k : Int) / 8 = (q : Int) := by omega
   have er : (k : Int) % 8 = (r : Int) := by omega
   have et : (7 : Int) - (r : Int) = (t : Int) := by omega
   have hqN : q < s.size := by have := u_ HN; have := u_ hLN; omega
   obtain ⟨p, hp⟩ := exq (((bs s).getD q 0).toNat)
   have hp2 : p < 256 := by rw [← hp]; exact ((bs s).getD q 0).toNat_lt
   have ix : ∀ w, (Instr.index 9 (.string s) (.int .i64 (q : Int))).run Tryz.prog w = .ok (.int .u8 (p : Int)) w := fun w => index_str s q hqN p hp w
   obtain ⟨z, hz⟩ := exq (p / 2 ^ t)
   have ez : (p : Int) / 2 ^ t = (z : Int) := by rw [← hz]; simp
   have uz : IntKind.u8.wrap (z : Int) = (z : Int) := by rw [IntKind.wrap_u8']; have : z ≤ p := by rw [← hz]; exact Nat.div_le_self _ _
                                                         omega
   obtain ⟨y, hy⟩ := exq (z % 2)
   have hand : bits .and .u8 (z : Int) 1 = (y : Int) := by rw [← hy, ← hz]; exact shr_and p t hp2
   obtain ⟨o, ho⟩ := exq (bitAt (bs s) k)
   have hyo : ((y : Int) == 1) = o := by
    rw [← ho]
    unfold bitAt
    rw [hq, hr, ht, hp, hz, hy]
    by_cases h1 : y = 1 <;> simp [h1] <;> omega
   have HS : Hid (maskTo (bs s) (k + 1) = !(o && u)) := by
    show _ = _
    rw [maskTo_succ, u_ HM, u_ HU, ho]
    cases decide (k = 0) <;> cases o <;> cases bitAt (bs s) (k - 1) <;> rfl
   have HU2 : Hid ((!o) = (!decide (k + 1 = 0) && !bitAt (bs s) (k + 1 - 1))) := by
    show _ = _
    rw [Nat.add_sub_cancel, ho]
    simp
   clear hq hr ht hp hz hy ho HM HU
   cases o with
   | false =>
    have HS2 : Hid (maskTo (bs s) (k + 1) = true) := by show _ = _; rw [u_ HS]; rfl
    have HU3 : Hid (true = (!decide (k + 1 = 0) && !bitAt (bs s) (k + 1 - 1))) := u_ HU2
    go_wp2
    go_roundw
    case rel =>
     first
      | exact ⟨k + 1, true, by omega, rfl, by go_num, rfl, HS2, HU3⟩
      | exact ⟨k + 1, true, by omega, rfl, by go_num, trivial, HS2, HU3⟩
      | ((repeat apply Exists.intro); exact ⟨⟨k + 1, true, by omega, rfl, by go_num, rfl, HS2, HU3⟩, rfl⟩)
    case measure => simp [intOf]; omega
   | true =>
    cases u with
    | true =>
     have HF : Hid (maskP (bs s) = false) := by
      show _ = _
      rw [u_ HL]
      exact maskTo_no (n := k + 1) (by omega) (by rw [u_ HS]; rfl)
     go_wp2
     go_ret
     exact ⟨by rw [u_ HF]; rfl, rfl⟩
    | false =>
     have HS2 : Hid (maskTo (bs s) (k + 1) = true) := by show _ = _; rw [u_ HS]; rfl
     have HU3 : Hid (false = (!decide (k + 1 = 0) && !bitAt (bs s) (k + 1 - 1))) := u_ HU2
     go_wp2
     go_roundw
     case rel =>
      first
       | exact ⟨k + 1, false, by omega, rfl, by go_num, rfl, HS2, HU3⟩
       | exact ⟨k + 1, false, by omega, rfl, by go_num, trivial, HS2, HU3⟩
       | ((repeat apply Exists.intro); exact ⟨⟨k + 1, false, by omega, rfl, by go_num, rfl, HS2, HU3⟩, rfl⟩)
     case measure => simp [intOf]; omega
  ·obtain ⟨f1, f1n⟩ := ltVVf k L
   have HF : Hid (maskP (bs s) = true) := by
    show _ = _
    rw [u_ HL]
    have : k = L := by omega
    rw [← this]
    exact u_ HM
   clear HM HU
   go_wp2
   go_ret
   exact ⟨by rw [u_ HF]; rfl, rfl⟩
end N
def DnAt (w : World) (x : Value) (d : List (Bs × Bs)) : Prop :=
 ∃ sp c, x = .slice sp d.length c ∧ d.length ≤ c ∧ (sp = none → c = 0) ∧ (d ≠ [] → ∃ b o, sp = some ⟨b, o, none⟩ ∧ ∀ i a, d[i]? = some a → w.cell? ⟨b, o + i * 2, none⟩ = some (.string (N.st a.1)) ∧ w.cell? ⟨b, o + i * 2 + 1, none⟩ = some (.string (N.st a.2)))
theorem DnAt.below {a b : World} {x : Value} {d : List (Bs × Bs)} (h : DnAt a x d) (hb : Below a.heap.size a b) : DnAt b x d := by
 obtain ⟨sp, c, rfl, h1, h2, h3⟩ := h
 refine ⟨sp, c, rfl, h1, h2, fun hd => ?_⟩
 obtain ⟨bb, o, e, hc⟩ := h3 hd
 refine ⟨bb, o, e, fun i a hi => ?_⟩
 obtain ⟨k1, k2⟩ := hc i a hi
 exact ⟨by rw [hb.cell (World.block_lt_of_cell? _ _ k1)]; exact k1, by rw [hb.cell (World.block_lt_of_cell? _ _ k2)]; exact k2⟩
theorem dn_nil (w : World) : DnAt w (.slice none 0 0) [] := ⟨none, 0, rfl, Nat.le_refl _, fun _ => rfl, fun h => absurd rfl h⟩
def gcells (k : Int) (s : ByteArray) (x : Value) : List Value := [.int .i64 k, .string s, x]
structure GenAt (w : World) (cs : List Value) (g : Gen) : Prop where
 form : ∃ s sp c, cs = gcells g.kind s (.slice sp g.dir.length c) ∧ N.bs s = g.text ∧ DnAt w (.slice sp g.dir.length c) g.dir
theorem GenAt.below {a b : World} {cs : List Value} {g : Gen} (h : GenAt a cs g) (hb : Below a.heap.size a b) : GenAt b cs g := by
 obtain ⟨s, sp, c, e, e2, hd⟩ := h.form
 exact ⟨s, sp, c, e, e2, hd.below hb⟩
namespace N
open K
theorem extract_str (s : ByteArray) (k N : Nat) (hN : s.size = N) : s.extract k N = st ((bs s).drop k) := by
 rw [← hN, ← st_bs (s.extract k s.size)]
 congr 1
 exact Lib.extract_to_end s k
theorem isaddr_c (w : World) (s : ByteArray) (limit : Bool) (hs : s.size ≤ 1000000000) : Calls Tryz.prog 92 #[.string s, .bool limit] w fun e w' => e = .returned (.bool (addrP limit (bs s))) ∧ w' = w := by
 obtain ⟨N, hN⟩ := exq s.size
 have hlen : (bs s).length = N := by rw [bs_len, hN]
 cases limit with
 | false =>
  obtain ⟨A, hA⟩ := exq (decide (N = 4))
  obtain ⟨B, hB⟩ := exq (decide (N = 16))
  have a1 : ((N : Int) == 4) = A := by rw [← hA]; by_cases h : N = 4 <;> simp [h] <;> omega
  have b1 : ((N : Int) == 16) = B := by rw [← hB]; by_cases h : N = 16 <;> simp [h] <;> omega
  have HT : Hid (addrP false (bs s) = (A || B)) := by show _ = _; unfold addrP; rw [if_pos rfl, hlen, hA, hB]
  clear hA hB hlen hs
  cases A <;> cases B <;> (go_enter Tryz.func92, Tryz.ntmps92; go_wp2; go_ret; exact ⟨by rw [u_ HT]; rfl, rfl⟩)
 | true =>
  by_cases h8 : N = 8 ∨ N = 32
  ·obtain ⟨H, hH⟩ := exq (N / 2)
   have eH : (N : Int) / 2 = (H : Int) := by omega
   have hex := extract_str s H N hN
   obtain ⟨m, hm⟩ := exq (st ((bs s).drop H))
   rw [hm] at hex
   have bH : (H : Int) ≤ (N : Int) := by omega
   have bHn : H ≤ N := by omega
   have bN : N ≤ 1000000000 := by omega
   have bH2 : (H : Int) ≤ 1000000000 := by omega
   have Hmk := h_ (ismask_c w m (by rw [← hm, st_size, List.length_drop]; omega))
   have HT : Hid (addrP true (bs s) = maskP (bs m)) := by
    show _ = _
    unfold addrP
    have e8 : (decide (N = 8) || decide (N = 32)) = true := by rcases h8 with h | h <;> simp [h]
    rw [if_neg (by simp), hlen, hH, ← hm, bs_st, e8, Bool.true_and]
   have a1 : ((N : Int) == 8) = decide (N = 8) := by by_cases h : N = 8 <;> simp [h] <;> omega
   have b1 : ((N : Int) == 32) = decide (N = 32) := by by_cases h : N = 32 <;> simp [h] <;> omega
   obtain ⟨A, hA⟩ := exq (decide (N = 8))
   obtain ⟨B, hB⟩ := exq (decide (N = 32))
   have hAB : A = false → B = true := fun h => by
    rw [h] at hA
    rw [← hB]
    exact decide_eq_true (h8.resolve_left (of_decide_eq_false hA))
   rw [hA] at a1
   rw [hB] at b1
   clear hm hH hlen hs hA hB h8
   cases A with
   | true =>
    clear hAB
    go_enter Tryz.func92, Tryz.ntmps92
    go_wp2_with (go_at_call 112; refine Hmk.mono ?_; rintro e w' ⟨rfl, hw⟩; obtain rfl := hw)
    go_ret
    exact ⟨by rw [u_ HT]; rfl, rfl⟩
   | false =>
    have := hAB rfl
    subst this
    clear hAB
    go_enter Tryz.func92, Tryz.ntmps92
    go_wp2_with (go_at_call 112; refine Hmk.mono ?_; rintro e w' ⟨rfl, hw⟩; obtain rfl := hw)
    go_ret
    exact ⟨by rw [u_ HT]; rfl, rfl⟩
  ·have a1 : ((N : Int) == 8) = false := by simp; omega
   have b1 : ((N : Int) == 32) = false := by simp; omega
   have HT : Hid (addrP true (bs s) = false) := by
    show _ = _
    unfold addrP
    rw [if_neg (by simp), hlen, decide_eq_false (fun h => h8 (Or.inl h)), decide_eq_false (fun h => h8 (Or.inr h))]
    rfl
   clear h8 hlen hs
   go_enter Tryz.func92, Tryz.ntmps92
   go_wp2
   go_ret
   exact ⟨by rw [u_ HT]; rfl, rfl⟩
theorem questAsc : Quest 93 (fun r => decide (r < 128)) := ⟨enters_of Tryz.func93 (by kernel_rfl) rfl, fun r w h => isasc_c r h w, fun r h => decide_eq_false (by omega)⟩
theorem questPrn : Quest 89 prnN := ⟨enters_of Tryz.func89 (by kernel_rfl) rfl, fun r w h => isprint_c r h w, fun r h => by unfold prnN; rw [decide_eq_false (by omega)]; rfl⟩
theorem questLab : Quest 138 labN := ⟨enters_of Tryz.func138 (by kernel_rfl) rfl, fun r w h => maylabel_c r h w, fun r h => by
 unfold labN digN capN
 rw [decide_eq_false (show ¬ r ≤ 57 by omega), decide_eq_false (show ¬ r ≤ 90 by omega), decide_eq_false (show ¬ r ≤ 122 by omega), decide_eq_false (show ¬ r = 45 by omega)]
 simp⟩
end N
namespace N
open K
theorem nil_str (s : ByteArray) : (s.toList == ([] : Bs)) = decide (bs s = []) := by
 rw [toList_bs]
 by_cases h : bs s = []
 ·rw [decide_eq_true h]; simp [h]
 ·rw [decide_eq_false h]; simpa using h
theorem three_at {w0 wr : World} {A : Nat} {a b c : Value} {T : TypeId} (h : Blk w0 wr A #[a, b, c] T) : wr.cell? ⟨A, 0, none⟩ = some a ∧ wr.cell? ⟨A, 1, none⟩ = some b ∧ wr.cell? ⟨A, 2, none⟩ = some c :=
 ⟨h.cell 0 _ rfl, h.cell 1 _ rfl, h.cell 2 _ rfl⟩
theorem isnamed_c (w : World) (g : Gen) (s : ByteArray) (sp : Option Addr) (n c : Nat) (limit : Bool) (hs : s.size ≤ 1000000000) (ht : bs s = g.text) (hd : g.dir.length = n) (hn : n ≤ 1000000000) :
  Calls Tryz.prog 64 #[.agg #[.int .i64 g.kind, .string s, .slice sp n c], .bool limit] w fun e w' => e = .returned (.bool (namedP g limit)) ∧ Below w.heap.size w w' := by
 obtain ⟨k, hk⟩ := exq g.kind
 obtain ⟨w1, X, hw1, eX, hA⟩ := blkN (Below.refl w.heap.size w) #[.int .i64 k, .string s, .slice sp n c] 56
 obtain ⟨k0, k1, k2⟩ := three_at hA
 have HA := h_ hA
 rw [hk]
 by_cases h4 : k = 4
 ·have HT : Hid (namedP g limit = (limit || decide (0 < n))) := by show _ = _; unfold namedP; rw [hk, if_pos h4, hd]
  subst h4
  obtain ⟨B, hB⟩ := exq (decide (0 < n))
  have b1 : decide ((0 : Int) < (n : Int)) = B := by rw [← hB, decide_eq_decide]; omega
  rw [hB] at HT
  clear hA hk hd ht
  cases limit <;> cases B <;>
   (go_enter Tryz.func64, Tryz.ntmps64
    go_wp2
    go_ret
    exact ⟨by rw [u_ HT]; rfl, HA.b⟩)
 by_cases h7 : k = 7
 ·have HT : Hid (namedP g limit = addrP limit (bs s)) := by show _ = _; unfold namedP; rw [hk, if_neg h4, if_pos h7, ht]
  subst h7
  have Had := h_ (isaddr_c w1 s limit hs)
  clear hA hk hd ht h4
  go_enter Tryz.func64, Tryz.ntmps64
  go_wp2_with fail
  refine Had.mono ?_
  rintro e w2 ⟨rfl, hw⟩
  obtain rfl := hw
  go_wp2
  go_ret
  exact ⟨by rw [u_ HT]; rfl, HA.b⟩
 ·have d4 : (k == 4) = false := by simpa using h4
  have d7 : (k == 7) = false := by simpa using h7
  obtain ⟨N, hN⟩ := exq s.size
  obtain ⟨E, hE⟩ := exq (decide (bs s = []))
  obtain ⟨L, hL⟩ := exq (decide (N ≤ 64))
  obtain ⟨V, hV⟩ := exq (ascP (bs s))
  have HT : Hid (namedP g limit = ((limit || !E) && L && V)) := by
   show _ = _
   unfold namedP
   rw [hk, if_neg h4, if_neg h7, ← ht, hE, bs_len, hN, hL, hV]
  have he : (s.toList == ([] : Bs)) = E := by rw [nil_str, hE]
  have hl : decide ((N : Int) ≤ 64) = L := by rw [← hL, decide_eq_decide]; omega
  have Hev := h_ (every_c 93 _ questAsc s hs w1)
  rw [show ((bs s).all fun c => decide (c.toNat < 128)) = V from hV] at Hev
  have bN : N ≤ 1000000000 := by omega
  clear hA hk hd ht hE hV h4 h7
  cases limit <;> cases E <;> cases L <;>
   first
   | (go_enter Tryz.func64, Tryz.ntmps64
      go_wp2_with fail
      refine Hev.mono ?_
      rintro e w2 ⟨rfl, hb⟩
      have HA2 := h_ (HA.call hb)
      clear hb k0 k1 k2 HA
      go_wp2
      go_ret
      exact ⟨by rw [u_ HT]; cases V <;> rfl, HA2.b⟩)
   | (go_enter Tryz.func64, Tryz.ntmps64
      go_wp2
      go_ret
      exact ⟨by rw [u_ HT]; rfl, HA.b⟩)
end N
theorem bytes_of_text (w : World) (S : ByteArray) : BytesAt (w.drew.alloc (.cells (bytesRow S (grownCap w S.size 0 5)) 5 ((bytesRow S (grownCap w S.size 0 5)).size, (bytesRow S (grownCap w S.size 0 5)).size + 1))) (.slice (some ⟨w.heap.size, 0, none⟩) S.size (grownCap w S.size 0 5)) S.data.toList := by
 have hlen : S.data.toList.length = S.size := by rw [Array.length_toList]; rfl
 have hge := grownCap_ge w S.size 0 5
 refine ⟨_, _, by rw [List.length_map, hlen], by rw [List.length_map, hlen]; exact hge, fun e => (by cases e), fun _ => ⟨w.heap.size, 0, rfl, fun j v hv => ?_⟩⟩
 have hj : j < S.data.size := by have := (List.getElem?_eq_some_iff.1 hv).1; simpa using this
 rw [Nat.zero_add]
 have h1 := World.cell?_alloc_mark w.drew (bytesRow S (grownCap w S.size 0 5)) 5 ((bytesRow S (grownCap w S.size 0 5)).size, (bytesRow S (grownCap w S.size 0 5)).size + 1) j
 have h2 := bytesRow_at S (grownCap w S.size 0 5) j hj
 have h3 : (S.data.toList.map bv)[j]? = some (.int .u8 (S.data[j].toNat : Int)) := by
  rw [List.getElem?_map, Array.getElem?_toList, Array.getElem?_eq_getElem hj]
  rfl
 rw [h3] at hv
 rw [← hv, ← h2]
 exact h1
namespace N
open K
theorem conv_bytes (w : World) (s : ByteArray) : ∃ (cp : Nat) (wb : World), (convert 9 22 (.string s)).run Tryz.prog w = .ok (.slice (some ⟨w.heap.size, 0, none⟩) s.size cp) wb ∧ BytesAt wb (.slice (some ⟨w.heap.size, 0, none⟩) s.size cp) (bs s) ∧ Below w.heap.size w wb :=
 ⟨_, _, run_bytes_of_string (P := Tryz.prog) w 9 22 5 s Tryz.underlying9 Tryz.underlying22 Tryz.underlying5, bytes_of_text w s, (Below.refl w.heap.size w).drew.alloc (Nat.le_refl _) _⟩
theorem leaf_at {w : World} {B b0 : Nat} {c : Nat} {l : Bs} (k t : Int) (h : BytesAt w (.slice (some ⟨b0, 0, none⟩) l.length c) l) (hB : B ≤ b0) (hl : l.length ≤ 9223372036854775807) : ValAt (fun j => B ≤ j) w [.int .i64 k, .int .i64 t, .bool false, .slice (some ⟨b0, 0, none⟩) l.length c, .slice none 0 0] (.mk k t false l []) :=
 ⟨1, _, none, 0, rfl, h, fun _ j hj => by simp [Value.ownBlock] at hj; omega, ⟨by simpa [DV.bytes] using hl, by simp [DV.kids]⟩, by simp [DV.kids], fun _ => rfl, fun h => absurd rfl h⟩
theorem bytes_setRow {w : World} {b0 c n : Nat} {l : Bs} (h : BytesAt w (.slice (some ⟨b0, 0, none⟩) n c) l) (R : Nat) (hR : R ≠ b0) (cs : Array Value) : BytesAt (w.setRow R cs) (.slice (some ⟨b0, 0, none⟩) n c) l := by
 obtain ⟨sp, c', e, h1, h2, h3⟩ := h
 simp only [Value.slice.injEq] at e
 obtain ⟨rfl, e2, rfl⟩ := e
 refine ⟨_, _, by rw [e2], h1, h2, fun hne => ?_⟩
 obtain ⟨b, o, e3, hr⟩ := h3 hne
 refine ⟨b, o, e3, fun j v hv => ?_⟩
 have h5 := hr j v hv
 simp only [Option.some.injEq, Addr.mk.injEq] at e3
 have hb : (w.setRow R cs).heap[b]? = w.heap[b]? := by
  simp only [World.setRow]
  rw [Array.getElem?_modify, if_neg (by omega)]
 rw [World.cell?_of_block hb]
 exact h5
theorem genv_c (dn : List (Bs × Bs) → Told DV) (w : World) (cs : List Value) (g : Gen) (limit : Bool) (hg : GenAt w cs g) (ht : g.text.length ≤ 1000000000) (hdl : g.dir.length ≤ 1000000000) (h4 : g.kind ≠ 4) :
  Calls Tryz.prog 31 #[.agg cs.toArray, .bool limit] w fun e w' => ∃ ds : List Value, e = .returned (.tuple #[.agg ds.toArray, .int .i64 (errOf (genV dn g limit) : Int)]) ∧ ValAt (fun k => w.heap.size ≤ k) w' ds (valOf (genV dn g limit)) ∧ Below w.heap.size w w' := by
 obtain ⟨s, sp, c, rfl, hst, hdn⟩ := hg.form
 obtain ⟨k, hk⟩ := exq g.kind
 obtain ⟨n, hn⟩ := exq g.dir.length
 have hs : s.size ≤ 1000000000 := by rw [← bs_len, hst]; exact ht
 have HNm : Hid (∀ wr : World, Calls Tryz.prog 64 #[.agg #[.int .i64 k, .string s, .slice sp n c], .bool limit] wr fun e w' => e = .returned (.bool (namedP g limit)) ∧ Below wr.heap.size wr w') := fun wr => by
  have := isnamed_c wr g s sp n c limit hs hst hn (by omega)
  rw [hk] at this
  exact this
 rw [hk, hn]
 obtain ⟨w1, X, hw1, eX, hA⟩ := blkN (Below.refl w.heap.size w) #[.int .i64 k, .string s, .slice sp n c] 56
 have hR0 := Blk.new hA.b #[.int .i64 0, .int .i64 0, .bool false, .slice none 0 0, .slice none 0 0] 25
 have hA1 := hA.lit (.cells #[.int .i64 0, .int .i64 0, .bool false, .slice none 0 0, .slice none 0 0] 25)
 obtain ⟨w2, hw2⟩ := exq (w1.alloc (.cells #[.int .i64 0, .int .i64 0, .bool false, .slice none 0 0, .slice none 0 0] 25))
 obtain ⟨R, eR⟩ := exq w1.heap.size
 rw [hw2, eR] at hR0
 rw [hw2] at hA1
 obtain ⟨k0, k1, k2⟩ := three_at hA1
 have HA := h_ hA1
 have HR := h_ hR0
 have Hk := h_ (iskind_c w2 k)
 have d4 : (k == 4) = false := by rw [hk] at h4; simpa using h4
 have d4' : (k != 4) = true := by rw [hk] at h4; simpa using h4
 have H5 : Hid ((#[.int .i64 0, .int .i64 0, .bool false, .slice none 0 0, .slice none 0 0] : Array Value).all (·.oneCell') = true) := by show _ = true; simp [Value.oneCell']
 unfold gcells
 by_cases hf : formG g = false
 ·have HE : Hid (errOf (genV dn g limit) = 30 ∧ valOf (genV dn g limit) = .mk 0 0 false [] []) := by
   have e : genV dn g limit = .no 30 := by unfold genV; rw [if_pos hf]
   rw [e]
   exact ⟨rfl, rfl⟩
  have hcase : kindP k = false ∨ (kindP k = true ∧ 0 < n) := by
   unfold formG at hf
   rw [hk, decide_eq_false (by rw [← hk]; exact h4), hn] at hf
   cases hkp : kindP k with
   | false => exact Or.inl rfl
   | true =>
    refine Or.inr ⟨rfl, ?_⟩
    rw [hkp] at hf
    rcases Nat.eq_zero_or_pos n with h0 | h0
    ·rw [h0] at hf; simp at hf
    ·exact h0
  rcases hcase with hkp | ⟨hkp, hpos⟩
  ·rw [hkp] at Hk
   clear hA hA1 hR0 hdn hst hf hkp h4 hk hn
   go_enter Tryz.func31, Tryz.ntmps31
   go_wp2_with fail
   refine Hk.mono ?_
   rintro e w' ⟨rfl, hw⟩
   obtain rfl := hw
   go_upto_region 2 with fail
   go_wp2_with (refine wpList_store_row rfl 25 _ _ rfl R _ rfl rfl 25 _ HR.res value5 rfl (u_ H5) ?_)
   exact bodyPost_ret (res_row_tmp Tryz.results31 _ _ R 25 #[.int .i64 0, .int .i64 0, .bool false, .slice none 0 0, .slice none 0 0] (0, 0) _ rfl (HR.set #[.int .i64 0, .int .i64 0, .bool false, .slice none 0 0, .slice none 0 0]).res Tryz.underlying25 rfl value5 _ rfl) rfl ⟨_, by rw [HE.1]; rfl, by rw [HE.2]; exact zero_val _ _, (HR.set #[.int .i64 0, .int .i64 0, .bool false, .slice none 0 0, .slice none 0 0]).b⟩
  ·rw [hkp] at Hk
   obtain ⟨z1, z1n⟩ := ltLV 0 0 n
   clear hA hA1 hR0 hdn hst hf hkp h4 hk hn
   go_enter Tryz.func31, Tryz.ntmps31
   go_wp2_with fail
   refine Hk.mono ?_
   rintro e w' ⟨rfl, hw⟩
   obtain rfl := hw
   go_upto_region 2 with fail
   go_wp2_with (refine wpList_store_row rfl 25 _ _ rfl R _ rfl rfl 25 _ HR.res value5 rfl (u_ H5) ?_)
   exact bodyPost_ret (res_row_tmp Tryz.results31 _ _ R 25 #[.int .i64 0, .int .i64 0, .bool false, .slice none 0 0, .slice none 0 0] (0, 0) _ rfl (HR.set #[.int .i64 0, .int .i64 0, .bool false, .slice none 0 0, .slice none 0 0]).res Tryz.underlying25 rfl value5 _ rfl) rfl ⟨_, by rw [HE.1]; rfl, by rw [HE.2]; exact zero_val _ _, (HR.set #[.int .i64 0, .int .i64 0, .bool false, .slice none 0 0, .slice none 0 0]).b⟩
 ·have hf' : kindP k = true ∧ n = 0 := by
   have hf2 : formG g = true := by cases h : formG g with
    | false => exact absurd h hf
    | true => rfl
   unfold formG at hf2
   rw [hk, decide_eq_false (by rw [← hk]; exact h4), hn] at hf2
   simp only [Bool.and_eq_true, Bool.false_or, decide_eq_true_eq] at hf2
   exact ⟨hf2.1.1, hf2.1.2⟩
  obtain ⟨hkp, hn0⟩ := hf'
  rw [hkp] at Hk
  obtain ⟨z1, z1n⟩ := ltLVf 0 0 n
  obtain ⟨U, hU⟩ := exq (namedP g limit)
  rw [hU] at HNm
  have HV : Hid (genV dn g limit = if U = false then .no 31 else .yes (.mk 2 k false (bs s) [])) := by
   show _ = _
   unfold genV
   rw [if_neg hf, hU, if_neg h4, hk, hst]
  have Hkc := h_ hkp
  clear hA hA1 hR0 hdn hst hf hkp h4 hk hn hU hn0
  go_enter Tryz.func31, Tryz.ntmps31
  go_wp2_with (go_at_call 67; refine Hk.mono ?_; rintro e w' ⟨rfl, hw⟩; obtain rfl := hw)
  refine (u_ HNm _).mono ?_
  rintro e w3 ⟨rfl, hb3⟩
  have HA3 := h_ (HA.call hb3)
  have HR3 := h_ (HR.call hb3)
  clear hb3 k0 k1 k2 hw1 hw2 eR HA HR HNm Hk
  obtain ⟨k0, k1, k2⟩ := three_at (u_ HA3)
  cases U with
  | false =>
   have HE : Hid (errOf (genV dn g limit) = 31 ∧ valOf (genV dn g limit) = .mk 0 0 false [] []) := by rw [u_ HV]; exact ⟨rfl, rfl⟩
   go_wp2_with (refine wpList_store_row rfl 25 _ _ rfl R _ rfl rfl 25 _ HR3.res value5 rfl (u_ H5) ?_)
   exact bodyPost_ret (res_row_tmp Tryz.results31 _ _ R 25 #[.int .i64 0, .int .i64 0, .bool false, .slice none 0 0, .slice none 0 0] (0, 0) _ rfl (HR3.set #[.int .i64 0, .int .i64 0, .bool false, .slice none 0 0, .slice none 0 0]).res Tryz.underlying25 rfl value5 _ rfl) rfl ⟨_, by rw [HE.1]; rfl, by rw [HE.2]; exact zero_val _ _, (HR3.set #[.int .i64 0, .int .i64 0, .bool false, .slice none 0 0, .slice none 0 0]).b⟩
  | true =>
   have HE : Hid (errOf (genV dn g limit) = 0 ∧ valOf (genV dn g limit) = .mk 2 k false (bs s) []) := by rw [u_ HV]; exact ⟨rfl, rfl⟩
   obtain ⟨cp, w4, hcv, hby, hb4⟩ := conv_bytes w3 s
   obtain ⟨B, hB⟩ := exq w3.heap.size
   obtain ⟨N, hN⟩ := exq s.size
   rw [hB, hN] at hcv hby
   have HR4 := h_ (HR3.call hb4)
   have HBy := h_ hby
   have HRB : Hid (R ≠ B ∧ w.heap.size ≤ B) := by
    have h1 := HR3.lt
    have h2 := HR3.b.size
    exact ⟨by omega, by omega⟩
   have HN := h_ hN
   have H6 : Hid ((#[.int .i64 2, .int .i64 k, .bool false, .slice (some ⟨B, 0, none⟩) N cp, .slice none 0 0] : Array Value).all (·.oneCell') = true) := by show _ = true; simp [Value.oneCell']
   clear hby hb4 hB hN HV
   go_wp2_with (refine wpList_store_row rfl 25 _ _ rfl R _ rfl rfl 25 _ HR4.res value5 rfl (u_ H6) ?_)
   refine bodyPost_ret (res_row_tmp Tryz.results31 _ _ R 25 #[.int .i64 2, .int .i64 k, .bool false, .slice (some ⟨B, 0, none⟩) N cp, .slice none 0 0] (0, 0) _ rfl (HR4.set #[.int .i64 2, .int .i64 k, .bool false, .slice (some ⟨B, 0, none⟩) N cp, .slice none 0 0]).res Tryz.underlying25 rfl value5 _ rfl) rfl ⟨[.int .i64 2, .int .i64 k, .bool false, .slice (some ⟨B, 0, none⟩) N cp, .slice none 0 0], by rw [HE.1]; rfl, ?_, (HR4.set #[.int .i64 2, .int .i64 k, .bool false, .slice (some ⟨B, 0, none⟩) N cp, .slice none 0 0]).b⟩
   rw [HE.2]
   have h1 := bytes_setRow (u_ HBy) R HRB.1 #[.int .i64 2, .int .i64 k, .bool false, .slice (some ⟨B, 0, none⟩) N cp, .slice none 0 0]
   have h2 : (bs s).length = N := by rw [bs_len]; exact u_ HN
   rw [← h2] at h1 ⊢
   exact leaf_at 2 k h1 HRB.2 (by rw [bs_len]; omega)
end N
end Go.Proofs.YtcofnockikninaaGreatDoor
