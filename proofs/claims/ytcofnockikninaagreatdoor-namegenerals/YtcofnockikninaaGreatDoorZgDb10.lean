/- Parts of the walk. -/
import Derived.Test.YtcofnockikninaaGreatDoorZgPq10
set_option maxRecDepth 100000
set_option maxHeartbeats 16000000
namespace Go.Proofs.YtcofnockikninaaGreatDoor
open Go.RowKit
theorem dnV_long {d : List (Bs × Bs)} (h : 16 < d.length) : dnV d = .no 30 := by unfold dnV; rw [if_pos h]
theorem dnV_oid {d : List (Bs × Bs)} {a : Bs × Bs} (ha : a ∈ d) (h : (oidVP a.1).isSome = false) : dnV d = .no 30 := by
 unfold dnV
 split
 ·rfl
 ·rw [if_pos]
  rw [List.all_eq_false]
  exact ⟨a, ha, by rw [h]; simp⟩
theorem dnV_text {d : List (Bs × Bs)} {a : Bs × Bs} (h16 : d.length ≤ 16) (ho : ∀ x ∈ d, (oidVP x.1).isSome = true) (ha : a ∈ d) (h : textP a.2 = false) : dnV d = .no 31 := by
 unfold dnV
 rw [if_neg (by omega), if_neg, if_pos]
 ·rw [List.all_eq_false]
  exact ⟨a, ha, by rw [h]; simp⟩
 ·intro hf
  rw [List.all_eq_false] at hf
  obtain ⟨x, hx, hn⟩ := hf
  exact hn (ho x hx)
theorem dnV_yes {d : List (Bs × Bs)} (h16 : d.length ≤ 16) (ho : ∀ x ∈ d, (oidVP x.1).isSome = true) (ht : ∀ x ∈ d, textP x.2 = true) : dnV d = .yes (.mk 0 16 true [] (d.map attrDV)) := by
 unfold dnV
 rw [if_neg (by omega), if_neg, if_neg]
 ·intro hf
  rw [List.all_eq_false] at hf
  obtain ⟨x, hx, hn⟩ := hf
  exact hn (ht x hx)
 ·intro hf
  rw [List.all_eq_false] at hf
  obtain ⟨x, hx, hn⟩ := hf
  exact hn (ho x hx)
theorem leaf_S {S : Nat → Prop} {w : World} {x : Value} {l : Bs} (k t : Int) (h : BytesAt w x l) (hf : ∀ j, x.ownBlock = some j → S j) (hl : l.length ≤ 9223372036854775807) : ValAt S w [.int .i64 k, .int .i64 t, .bool false, x, .slice none 0 0] (.mk k t false l []) :=
 ⟨1, x, none, 0, rfl, h, fun _ j hj => hf j hj, ⟨by simpa [DV.bytes] using hl, by simp [DV.kids]⟩, by simp [DV.kids], fun _ => rfl, fun h => absurd rfl h⟩
namespace N
open K
theorem drow_two {S : Nat → Prop} {w0 w : World} {B : Nat} {a0 a1 a2 a3 a4 b0 b1 b2 b3 b4 : Value} {u v : DV} (h : Blk w0 w B #[a0, a1, a2, a3, a4, b0, b1, b2, b3, b4] 25) (hu : ValAt S w [a0, a1, a2, a3, a4] u) (hv : ValAt S w [b0, b1, b2, b3, b4] v) : DRow S w B 2 [u, v] := by
 refine ⟨⟨_, h.res, rfl⟩, fun j x hj => ?_⟩
 match j, hj with
 | 0, hj =>
  simp only [List.getElem?_cons_zero, Option.some.injEq] at hj
  subst hj
  refine ⟨_, fun i y hi => ?_, hu⟩
  refine h.cell _ _ ?_
  match i, hi with
  | 0, hi => exact hi
  | 1, hi => exact hi
  | 2, hi => exact hi
  | 3, hi => exact hi
  | 4, hi => exact hi
  | i + 5, hi => simp at hi
 | 1, hj =>
  simp only [List.getElem?_cons_succ, List.getElem?_cons_zero, Option.some.injEq] at hj
  subst hj
  refine ⟨_, fun i y hi => ?_, hv⟩
  refine h.cell _ _ ?_
  match i, hi with
  | 0, hi => exact hi
  | 1, hi => exact hi
  | 2, hi => exact hi
  | 3, hi => exact hi
  | 4, hi => exact hi
  | i + 5, hi => simp at hi
 | j + 2, hj => simp at hj
theorem drow_one {S : Nat → Prop} {w0 w : World} {B : Nat} {a0 a1 a2 a3 a4 : Value} {u : DV} (h : Blk w0 w B #[a0, a1, a2, a3, a4] 25) (hu : ValAt S w [a0, a1, a2, a3, a4] u) : DRow S w B 1 [u] := by
 refine ⟨⟨_, h.res, rfl⟩, fun j x hj => ?_⟩
 match j, hj with
 | 0, hj =>
  simp only [List.getElem?_cons_zero, Option.some.injEq] at hj
  subst hj
  refine ⟨_, fun i y hi => ?_, hu⟩
  refine h.cell _ _ ?_
  match i, hi with
  | 0, hi => exact hi
  | 1, hi => exact hi
  | 2, hi => exact hi
  | 3, hi => exact hi
  | 4, hi => exact hi
  | i + 5, hi => simp at hi
 | j + 1, hj => simp at hj
theorem attr_done {w w9 w12 : World} {B1 B2 R KB LB BB NT cp n k T : Nat} {uc ut : Int} {um : Bool} {p1 p2 : Option Addr} {ul q1 uk q2 : Nat} {tx : ByteArray} {a : Bs × Bs} {os ats : List DV}
  (hB : B1 < B2) (hs : DRow (fun b => B1 < b ∧ b ≠ B2) w9 B2 n ats) (ho : DRow (fun b => B1 < b ∧ b ≠ B2) w9 B1 n os) (hR : Blk w w9 R #[.int .i64 0, .int .i64 0, .bool false, .slice none 0 0, .slice none 0 0] 25) (hRB : R < B2) (hwB : w.heap.size ≤ B2)
  (hL : Blk w9 w12 LB #[.int .i64 0, .int .i64 16, .bool true, .slice none 0 0, .slice (some ⟨KB, 0, none⟩) 2 2] 25) (hK : Blk w9 w12 KB #[.int .i64 uc, .int .i64 ut, .bool um, .slice p1 ul q1, .slice p2 uk q2, .int .i64 0, .int .i64 (T : Int), .bool false, .slice (some ⟨BB, 0, none⟩) NT cp, .slice none 0 0] 25) (hv : ValAt (fun b => B1 < b ∧ b ≠ B2) w9 (dcells uc ut um (.slice p1 ul q1) (.slice p2 uk q2)) (oidV a.1))
  (hy : BytesAt w12 (.slice (some ⟨BB, 0, none⟩) NT cp) (bs tx)) (hBB : B2 < BB) (htx : bs tx = a.2) (hT : textT a.2 = T) (hNT : tx.size = NT) (hts : tx.size ≤ 1000000) (hk : ats.length = k) (hkn : k < n) :
  Blk w (w12.setCells B2 (k * 5) [.int .i64 0, .int .i64 17, .bool true, .slice none 0 0, .slice (some ⟨LB, 0, none⟩) 1 1]) R #[.int .i64 0, .int .i64 0, .bool false, .slice none 0 0, .slice none 0 0] 25 ∧ DRow (fun b => B1 < b ∧ b ≠ B2) (w12.setCells B2 (k * 5) [.int .i64 0, .int .i64 17, .bool true, .slice none 0 0, .slice (some ⟨LB, 0, none⟩) 1 1]) B1 n os ∧ DRow (fun b => B1 < b ∧ b ≠ B2) (w12.setCells B2 (k * 5) [.int .i64 0, .int .i64 17, .bool true, .slice none 0 0, .slice (some ⟨LB, 0, none⟩) 1 1]) B2 n (ats ++ [attrDV a]) ∧ w12.there B2 (k * 5) 5 := by
 have hb := hL.b
 have h9 := hs.lt
 have hLg := hL.ge
 have hKg := hK.ge
 have hs12 := hs.below hb
 have ho12 := ho.below hb
 have hR12 := hR.call hb
 have v1 : ValAt (fun b => B1 < b ∧ b ≠ B2) w12 [.int .i64 uc, .int .i64 ut, .bool um, .slice p1 ul q1, .slice p2 uk q2] (oidV a.1) := hv.below hb
 have v2 : ValAt (fun b => B1 < b ∧ b ≠ B2) w12 [.int .i64 0, .int .i64 (T : Int), .bool false, .slice (some ⟨BB, 0, none⟩) NT cp, .slice none 0 0] (.mk 0 (T : Int) false (bs tx) []) := leaf_S 0 (T : Int) hy (fun j hj => by simp only [Value.ownBlock, Option.some.injEq] at hj; omega) (by rw [bs_len]; omega)
 have r2 := drow_two hK v1 v2
 have hp : ValAt (fun b => B1 < b ∧ b ≠ B2) w12 [.int .i64 0, .int .i64 16, .bool true, .slice none 0 0, .slice (some ⟨KB, 0, none⟩) 2 2] (pairDV a) := by
  have h := made_val (t := 16) (c := 2) r2 rfl (Nat.le_refl _) (by omega) ⟨by omega, by omega⟩
  unfold pairDV
  rw [hT, ← htx]
  exact h
 have r1 := drow_one hL hp
 have ha : ValAt (fun b => B1 < b ∧ b ≠ B2) w12 [.int .i64 0, .int .i64 17, .bool true, .slice none 0 0, .slice (some ⟨LB, 0, none⟩) 1 1] (attrDV a) := made_val (t := 17) (c := 1) r1 rfl (Nat.le_refl _) (by omega) ⟨by omega, by omega⟩
 have hg : w12.grownBy (w12.setCells B2 (k * 5) [.int .i64 0, .int .i64 17, .bool true, .slice none 0 0, .slice (some ⟨LB, 0, none⟩) 1 1]) (some B2) := grown_setCells w12 B2 _ (k * 5) w12 (World.grownBy.refl _ _)
 refine ⟨?_, ho12.kept hg (by omega) (fun h => h.2 rfl), hs12.set hk hkn rfl ha (fun h => h.2 rfl), hs12.there k hkn⟩
 have hRlt := hR12.lt
 obtain ⟨g1, g2, g3⟩ := hR12
 exact ⟨by rw [hg.block R hRlt (fun e => by simp only [Option.some.injEq] at e; omega)]; exact g1, g2.grown hg g2.size (fun g e => by simp only [Option.some.injEq] at e; omega), g3⟩
end N
theorem dn_cells {w : World} {sp : Option Addr} {n c : Nat} {d : List (Bs × Bs)} (h : DnAt w (.slice sp n c) d) {k : Nat} (hk : k < d.length) : ∃ (a : Bs × Bs) (bb oo : Nat), d[k]? = some a ∧ sp = some ⟨bb, oo, none⟩ ∧ w.cell? ⟨bb, oo + k * 2, none⟩ = some (.string (N.st a.1)) ∧ w.cell? ⟨bb, oo + k * 2 + 1, none⟩ = some (.string (N.st a.2)) := by
 obtain ⟨sp', c', e, _, _, h3⟩ := h
 simp only [Value.slice.injEq] at e
 obtain ⟨rfl, _, _⟩ := e
 obtain ⟨b, o, e2, hc⟩ := h3 (fun e => by rw [e] at hk; simp at hk)
 obtain ⟨a, ha⟩ : ∃ a, d[k]? = some a := ⟨_, List.getElem?_eq_getElem hk⟩
 exact ⟨a, b, o, ha, e2, (hc k a ha).1, (hc k a ha).2⟩
namespace N
open K
theorem conv_bytes2 (w : World) (s : ByteArray) : ∃ (cp : Nat) (wb : World), (convert 9 22 (.string s)).run Tryz.prog w = .ok (.slice (some ⟨w.heap.size, 0, none⟩) s.size cp) wb ∧ BytesAt wb (.slice (some ⟨w.heap.size, 0, none⟩) s.size cp) (bs s) ∧ Below w.heap.size w wb ∧ wb.heap.size = w.heap.size + 1 :=
 ⟨_, _, run_bytes_of_string (P := Tryz.prog) w 9 22 5 s Tryz.underlying9 Tryz.underlying22 Tryz.underlying5, bytes_of_text w s, (Below.refl w.heap.size w).drew.alloc (Nat.le_refl _) _, by simp⟩
theorem dnv_c (w : World) (hR : Rdy w) (sp : Option Addr) (n c : Nat) (d : List (Bs × Bs)) (hd : DnAt w (.slice sp n c) d) (hl : ∀ a ∈ d, a.1.length ≤ 1000000 ∧ a.2.length ≤ 1000000) (hn : d.length = n) (hn9 : n ≤ 1000000000) :
  Calls Tryz.prog 24 #[.slice sp n c] w fun e w' => ∃ ds : List Value, e = .returned (.tuple #[.agg ds.toArray, .int .i64 (errOf (dnV d) : Int)]) ∧ ValAt (fun k => w.heap.size ≤ k) w' ds (valOf (dnV d)) ∧ Below w.heap.size w w' := by
 obtain ⟨w1, R, hw1, eR, hR0⟩ := blkN (Below.refl w.heap.size w) #[.int .i64 0, .int .i64 0, .bool false, .slice none 0 0, .slice none 0 0] 25
 have HR := h_ hR0
 have H5 : Hid ((#[.int .i64 0, .int .i64 0, .bool false, .slice none 0 0, .slice none 0 0] : Array Value).all (·.oneCell') = true) := by show _ = true; simp [Value.oneCell']
 have HRd : Hid (∀ wr, Below w.heap.size w wr → Rdy wr) := fun wr hb => hR.below hb
 have Hd : Hid (∀ wr, Below w.heap.size w wr → DnAt wr (.slice sp n c) d) := fun wr hb => hd.below hb
 have Hl := h_ hl
 have Hn := h_ hn
 have HeR := h_ eR
 by_cases h16 : 16 < n
 ·obtain ⟨d1, d1n⟩ := ltLV 16 16 n
  have HE : Hid (errOf (dnV d) = 30 ∧ valOf (dnV d) = .mk 0 0 false [] []) := by rw [dnV_long (by omega)]; exact ⟨rfl, rfl⟩
  clear hR0 hR hd hl hn
  go_enter Tryz.func24, Tryz.ntmps24
  go_upto_region 2 with fail
  go_wp2_with (refine wpList_store_row rfl 25 _ _ rfl R _ rfl rfl 25 _ HR.res value5 rfl (u_ H5) ?_)
  exact bodyPost_ret (res_row_tmp Tryz.results24 _ _ R 25 #[.int .i64 0, .int .i64 0, .bool false, .slice none 0 0, .slice none 0 0] (0, 0) _ rfl (HR.set #[.int .i64 0, .int .i64 0, .bool false, .slice none 0 0, .slice none 0 0]).res Tryz.underlying25 rfl value5 _ rfl) rfl ⟨_, by rw [HE.1]; rfl, by rw [HE.2]; exact zero_val _ _, (HR.set #[.int .i64 0, .int .i64 0, .bool false, .slice none 0 0, .slice none 0 0]).b⟩
 obtain ⟨d1, d1n⟩ := ltLVf 16 16 n
 obtain ⟨W1, hmk, hdr, hbel⟩ := made_five w1 n (by omega)
 obtain ⟨B1, hB1⟩ := exq w1.heap.size
 rw [hB1] at hmk hdr
 have HR1 := h_ (HR.call hbel)
 have HD1 : Hid (DRow (fun b => B1 < b) W1 B1 n ((d.take 0).map fun a => oidV a.1)) := hdr _
 have HB1 : Hid (R < B1 ∧ w.heap.size ≤ B1) := ⟨by have := HR.lt; omega, by have := HR.b.size; omega⟩
 clear hR0 hR hd hl hn hdr hbel HR
 go_enter Tryz.func24, Tryz.ntmps24
 go_wp2
 clear hmk d1 d1n hw1 hB1 eR
 go_loopw [23] (fun ii wr => ∃ k : Nat, k ≤ n ∧ ii = .int .i64 (k : Int) ∧ Hid (∀ a ∈ d.take k, (oidVP a.1).isSome = true) ∧ Hid (Blk w wr R #[.int .i64 0, .int .i64 0, .bool false, .slice none 0 0, .slice none 0 0] 25) ∧ Hid (DRow (fun b => B1 < b) wr B1 n ((d.take k).map fun a => oidV a.1))) (fun ii _ => n - (intOf ii).toNat)
 case atStart => exact ⟨0, by omega, rfl, fun a ha => by simp at ha, HR1, HD1⟩
 case round =>
  clear HR1 HD1
  obtain ⟨k, hk, rfl, HO, HRr, HD⟩ := hrel
  by_cases hlt : k < n
  ·obtain ⟨a, bb, oo, hda, rfl, hc1, hc2⟩ := dn_cells (u_ Hd wr HRr.b) (k := k) (by have := u_ Hn; omega)
   obtain ⟨f1, f1n⟩ := ltVV k n
   have k0 : (0 : Int) ≤ (k : Int) := by omega
   have k1 : (k : Int) < (n : Int) := by omega
   have Hda := h_ hda
   obtain ⟨ty, hty⟩ := exq (st a.1)
   obtain ⟨tx, htx⟩ := exq (st a.2)
   rw [hty] at hc1
   rw [htx] at hc2
   have Hty : Hid (bs ty = a.1) := by show _ = _; rw [← hty, bs_st]
   have Hts : Hid (ty.size ≤ 1000000) := by show _ ≤ _; rw [← bs_len, u_ Hty]; exact (u_ Hl a (List.mem_of_getElem? hda)).1
   obtain ⟨w3, A, hw3, eA, hA⟩ := blkN HRr.b #[.string ty, .string tx] 103
   have hb3 := allocB hw3
   have a0 : w3.cell? ⟨A, 0, none⟩ = some (.string ty) := hA.cell 0 _ rfl
   have a1 : w3.cell? ⟨A, 1, none⟩ = some (.string tx) := hA.cell 1 _ rfl
   have HR3 := h_ (HRr.call hb3)
   have HD3 := h_ (HD.below hb3)
   have Hov := h_ (oidv_c w3 (u_ HRd w3 HR3.b) ty (u_ Hts))
   rw [u_ Hty] at Hov
   clear hda hty htx hA hb3 HRr HD
   go_wp2_with fail
   refine Hov.mono ?_
   rintro e w4 ⟨cs4, rfl, hv4, hb⟩
   have HR4 := h_ (HR3.call hb)
   have HD4 := h_ (HD3.below hb)
   obtain ⟨n4, hv4⟩ := hv4
   obtain ⟨p1, q1, p2, q2, rfl⟩ := hv4.form
   have hAl : w3.heap.size ≤ w4.heap.size := hb.size
   have HV4 : Hid (VAt n4 (fun b => B1 < b) w4 (dcells (oidV a.1).cls (oidV a.1).tag (oidV a.1).made (.slice p1 (oidV a.1).bytes.length q1) (.slice p2 (oidV a.1).kids.length q2)) (oidV a.1)) := hv4.mono fun b hb' _ => by have := HD3.lt; omega
   obtain ⟨vc, hvc⟩ := exq ((oidV a.1).cls)
   obtain ⟨vt, hvt⟩ := exq ((oidV a.1).tag)
   obtain ⟨vm, hvm⟩ := exq ((oidV a.1).made)
   obtain ⟨vl, hvl⟩ := exq ((oidV a.1).bytes.length)
   obtain ⟨vk, hvk⟩ := exq ((oidV a.1).kids.length)
   simp only [hvc, hvt, hvm, hvl, hvk] at HV4 ⊢
   clear hvc hvt hvm hvl hvk hv4 hb hAl Hov HR3 HD3 a0 a1 hc1 hc2 hw3 eA
   unfold dcells at HV4 ⊢
   obtain ⟨w5, Y, hw5, eY, hY⟩ := blkN HR4.b #[.int .i64 vc, .int .i64 vt, .bool vm, .slice p1 vl q1, .slice p2 vk q2] 25
   have hb := allocB hw5
   obtain ⟨y0, y1, y2, y3, y4⟩ := five_at hY
   have HR5 := h_ (HR4.call hb)
   have HD5 := h_ (HD4.below hb)
   have HV5 := h_ (HV4.below hb)
   clear hY hb HR4 HD4 HV4
   obtain ⟨OK, hOK⟩ := exq ((oidVP a.1).isSome)
   rw [hOK]
   cases OK with
   | false =>
    have HE : Hid (errOf (dnV d) = 30 ∧ valOf (dnV d) = .mk 0 0 false [] []) := by rw [dnV_oid (List.mem_of_getElem? (u_ Hda)) hOK]; exact ⟨rfl, rfl⟩
    clear hOK HD5 HV5
    go_upto_region 9 with fail
    go_wp2_with (refine wpList_store_row rfl 25 _ _ rfl R _ rfl rfl 25 _ HR5.res value5 rfl (u_ H5) ?_)
    exact bodyPost_ret (res_row_tmp Tryz.results24 _ _ R 25 #[.int .i64 0, .int .i64 0, .bool false, .slice none 0 0, .slice none 0 0] (0, 0) _ rfl (HR5.set #[.int .i64 0, .int .i64 0, .bool false, .slice none 0 0, .slice none 0 0]).res Tryz.underlying25 rfl value5 _ rfl) rfl ⟨_, by rw [HE.1]; rfl, by rw [HE.2]; exact zero_val _ _, (HR5.set #[.int .i64 0, .int .i64 0, .bool false, .slice none 0 0, .slice none 0 0]).b⟩
   | true =>
    have hkl : ((d.take k).map fun a => oidV a.1).length = k := by rw [List.length_map, List.length_take]; have := u_ Hn; omega
    have hth := HD5.there k hlt
    have hset := HD5.set hkl hlt rfl ⟨n4, u_ HV5⟩ (by simp)
    have hsz : k < d.length := by have := u_ Hn; omega
    have htk : d.take (k + 1) = d.take k ++ [a] := by rw [List.take_add_one, u_ Hda]; rfl
    have HD6 : Hid (DRow (fun b => B1 < b) (w5.setCells B1 (k * 5) [.int .i64 vc, .int .i64 vt, .bool vm, .slice p1 vl q1, .slice p2 vk q2]) B1 n ((d.take (k + 1)).map fun a => oidV a.1)) := by
     show DRow _ _ _ _ _
     rw [htk, List.map_append]
     exact hset
    have HR6 : Hid (Blk w (w5.setCells B1 (k * 5) [.int .i64 vc, .int .i64 vt, .bool vm, .slice p1 vl q1, .slice p2 vk q2]) R #[.int .i64 0, .int .i64 0, .bool false, .slice none 0 0, .slice none 0 0] 25) := by
     obtain ⟨g1, g2, g3⟩ := u_ HR5
     have hg := grown_setCells w5 B1 [.int .i64 vc, .int .i64 vt, .bool vm, .slice p1 vl q1, .slice p2 vk q2] (k * 5) w5 (World.grownBy.refl _ _)
     exact ⟨by rw [hg.block R HR5.lt (fun e => by have := HB1.1; simp only [Option.some.injEq] at e; omega)]; exact g1, g2.grown hg g2.size (fun g e => by simp only [Option.some.injEq] at e; have := HB1.2; omega), g3⟩
    have HO2 : Hid (∀ a ∈ d.take (k + 1), (oidVP a.1).isSome = true) := fun b hb => by
     rw [htk, List.mem_append, List.mem_singleton] at hb
     rcases hb with hb | rfl
     ·exact u_ HO b hb
     ·exact hOK
    have H6 : Hid ((#[.int .i64 vc, .int .i64 vt, .bool vm, .slice p1 vl q1, .slice p2 vk q2] : Array Value).all (·.oneCell') = true) := by show _ = true; simp [Value.oneCell']
    have Hth := h_ hth
    obtain ⟨w6, hw6⟩ := exq (w5.setCells B1 (k * 5) [.int .i64 vc, .int .i64 vt, .bool vm, .slice p1 vl q1, .slice p2 vk q2])
    rw [hw6] at HD6 HR6
    clear hOK hkl hth hset hsz htk HD5 HV5 HR5 HO
    go_upto_region 10 with fail
    go_wp2_with (refine wpList_store_mid rfl 25 _ _ rfl B1 (k * 5) #[.int .i64 vc, .int .i64 vt, .bool vm, .slice p1 vl q1, .slice p2 vk q2] rfl rfl (u_ Hth) value5 (u_ H6) ?_; show wpList _ _ _ _ _ (w5.setCells B1 (k * 5) [.int .i64 vc, .int .i64 vt, .bool vm, .slice p1 vl q1, .slice p2 vk q2]); rw [hw6])
    go_roundw
    case rel =>
     first
      | exact ⟨k + 1, by omega, by go_num, HO2, HR6, HD6⟩
      | ((repeat apply Exists.intro); exact ⟨⟨k + 1, by omega, by go_num, HO2, HR6, HD6⟩, rfl⟩)
    case measure => simp [intOf]; omega
  ·obtain ⟨f1, f1n⟩ := ltVVf k n
   have hall : d.take k = d := List.take_of_length_le (by have := u_ Hn; omega)
   rw [hall] at HO HD
   obtain ⟨W2, hmk, hdr, hbel⟩ := made_five wr n (by omega)
   obtain ⟨B2, hB2⟩ := exq wr.heap.size
   rw [hB2] at hmk hdr
   have HR2 := h_ (HRr.call hbel)
   have HDo : Hid (DRow (fun b => B1 < b ∧ b ≠ B2) W2 B1 n (d.map fun a => oidV a.1)) := (HD.mono fun b hb hlt2 => ⟨hb, by omega⟩).below hbel
   have HDs : Hid (DRow (fun b => B1 < b ∧ b ≠ B2) W2 B2 n ((d.take 0).map attrDV)) := hdr _
   have HB2 : Hid (B1 < B2 ∧ R < B2 ∧ w.heap.size ≤ B2) := ⟨by have := HD.lt; omega, by have := HRr.lt; omega, by have := HRr.b.size; omega⟩
   clear hall hdr hbel HRr HD
   go_wp2
   clear hmk f1 f1n hB2
   go_loopw [47] (fun ii wr => ∃ k : Nat, k ≤ n ∧ ii = .int .i64 (k : Int) ∧ Hid (∀ a ∈ d.take k, textP a.2 = true) ∧ Hid (Blk w wr R #[.int .i64 0, .int .i64 0, .bool false, .slice none 0 0, .slice none 0 0] 25) ∧ Hid (DRow (fun b => B1 < b ∧ b ≠ B2) wr B1 n (d.map fun a => oidV a.1)) ∧ Hid (DRow (fun b => B1 < b ∧ b ≠ B2) wr B2 n ((d.take k).map attrDV))) (fun ii _ => n - (intOf ii).toNat)
   case atStart => exact ⟨0, by omega, rfl, fun a ha => by simp at ha, HR2, HDo, HDs⟩
   case round =>
    clear HR2 HDo HDs hk
    rename World => wr
    obtain ⟨k, hk, rfl, HT, HRr, HDo, HDs⟩ := hrel
    by_cases hlt : k < n
    ·obtain ⟨a, bb, oo, hda, rfl, hc1, hc2⟩ := dn_cells (u_ Hd wr HRr.b) (k := k) (by have := u_ Hn; omega)
     obtain ⟨f1, f1n⟩ := ltVV k n
     have k0 : (0 : Int) ≤ (k : Int) := by omega
     have k1 : (k : Int) < (n : Int) := by omega
     have Hda := h_ hda
     obtain ⟨ty, hty⟩ := exq (st a.1)
     obtain ⟨tx, htx⟩ := exq (st a.2)
     rw [hty] at hc1
     rw [htx] at hc2
     have Htx : Hid (bs tx = a.2) := by show _ = _; rw [← htx, bs_st]
     have Hts : Hid (tx.size ≤ 1000000) := by show _ ≤ _; rw [← bs_len, u_ Htx]; exact (u_ Hl a (List.mem_of_getElem? hda)).2
     obtain ⟨w3, A, hw3, eA, hA⟩ := blkN HRr.b #[.string ty, .string tx] 103
     have hb3 := allocB hw3
     have a0 : w3.cell? ⟨A, 0, none⟩ = some (.string ty) := hA.cell 0 _ rfl
     have a1 : w3.cell? ⟨A, 1, none⟩ = some (.string tx) := hA.cell 1 _ rfl
     have HA3 := h_ hA
     have HR3 := h_ (HRr.call hb3)
     have HDo3 := h_ (HDo.below hb3)
     have HDs3 := h_ (HDs.below hb3)
     have Hit := h_ (istext_c w3 (u_ HRd w3 HR3.b) tx (u_ Hts))
     rw [u_ Htx] at Hit
     obtain ⟨OK, hOK⟩ := exq (textP a.2)
     rw [hOK] at Hit
     clear hda hty htx hA hb3 HRr HDo HDs
     go_wp2_with fail
     refine Hit.mono ?_
     rintro e w4 ⟨rfl, hb⟩
     have HA4 := h_ (HA3.call hb)
     have HR4 := h_ (HR3.call hb)
     have HDo4 := h_ (HDo3.below hb)
     have HDs4 := h_ (HDs3.below hb)
     clear hb Hit HA3 HR3 HDo3 HDs3 a0 a1 hw3 eA hc1 hc2
     cases OK with
     | false =>
      have HE : Hid (errOf (dnV d) = 31 ∧ valOf (dnV d) = .mk 0 0 false [] []) := by
       rw [dnV_text (by have := u_ Hn; omega) (u_ HO) (List.mem_of_getElem? (u_ Hda)) hOK]
       exact ⟨rfl, rfl⟩
      clear hOK HDo4 HDs4
      go_upto_region 17 with fail
      go_wp2_with (refine wpList_store_row rfl 25 _ _ rfl R _ rfl rfl 25 _ HR4.res value5 rfl (u_ H5) ?_)
      exact bodyPost_ret (res_row_tmp Tryz.results24 _ _ R 25 #[.int .i64 0, .int .i64 0, .bool false, .slice none 0 0, .slice none 0 0] (0, 0) _ rfl (HR4.set #[.int .i64 0, .int .i64 0, .bool false, .slice none 0 0, .slice none 0 0]).res Tryz.underlying25 rfl value5 _ rfl) rfl ⟨_, by rw [HE.1]; rfl, by rw [HE.2]; exact zero_val _ _, (HR4.set #[.int .i64 0, .int .i64 0, .bool false, .slice none 0 0, .slice none 0 0]).b⟩
     | true =>
      have HOK := h_ hOK
      have a1 : w4.cell? ⟨A, 1, none⟩ = some (.string tx) := HA4.cell 1 _ rfl
      have HBw : Hid (∀ {x : Nat}, w4.heap.size ≤ x → B2 < x) := fun h => Nat.lt_of_lt_of_le HDs4.lt h
      clear hOK
      go_upto_region 18 with fail
      obtain ⟨T, hT⟩ := exq (textT a.2)
      have HTt := h_ hT
      have Htag : Hid (∀ wr : World, Calls Tryz.prog 57 #[.string tx] wr fun e w' => e = .returned (.int .i64 (T : Int)) ∧ Below wr.heap.size wr w') := fun wr => by
       have h := texttag_c wr tx (u_ Hts)
       rw [u_ Htx, hT] at h
       exact h
      have HSx : Hid (∀ wr, Below w4.heap.size w4 wr → wr.cell? ⟨A, 1, none⟩ = some (.string tx)) := fun wr hb => (HA4.call hb).cell 1 _ rfl
      obtain ⟨NT, hNT⟩ := exq tx.size
      have HNT := h_ hNT
      clear hT hNT
      refine wp_region_held_drew (S := fun w' => w'.cell? ⟨A, 1, none⟩ = some (.string tx)) (by kernel_rfl) (u_ HSx _ (Below.refl _ _).drew) (fun hHeld => ?_)
      obtain ⟨x0, hx0⟩ := exq w4.drew
      have HB0 : Hid (Below w4.heap.size w4 x0) := by show Below _ _ _; rw [← hx0]; exact (Below.refl _ _).drew
      rw [hx0] at hHeld ⊢
      clear hx0 a1
      refine wpAnyH_take (i := 0) (oi := { dst := some 57, op := .fieldAddr 103 (.tmp 11) 1, type := 0, pos := "dn.go:53", after := #[], guard := none }) (v := ?_) rfl (by kernel_rfl) (by kernel_rfl) (by kernel_rfl) (fun _ _ _ h => h) (Or.inl ⟨by rfl, ?y1⟩) (by assumption) ?_
      case y1 => (intro w_ hSw; (try dsimp only at hSw); go_simp; try with_reducible rfl)
      simp only [Act.put, s1_, s2_, s3_]
      refine wpAnyH_take (i := 1) (oi := { dst := some 58, op := .load 9 (.tmp 57), type := 9, pos := "dn.go:53", after := #[{ on := 0, ground := .data }], guard := none }) (v := ?_) rfl (by kernel_rfl) (by kernel_rfl) (by kernel_rfl) (fun _ _ _ h => h) (Or.inl ⟨by rfl, ?y2⟩) (by assumption) ?_
      case y2 => (intro w_ hSw; (try dsimp only at hSw); go_simp; try with_reducible rfl)
      simp only [Act.put, s1_, s2_, s3_]
      refine wpAnyH_take (i := 3) (oi := { dst := some 60, op := .fieldAddr 103 (.tmp 11) 1, type := 0, pos := "dn.go:53", after := #[], guard := none }) (v := ?_) rfl (by kernel_rfl) (by kernel_rfl) (by kernel_rfl) (fun _ _ _ h => h) (Or.inl ⟨by rfl, ?y3⟩) (by assumption) ?_
      case y3 => (intro w_ hSw; (try dsimp only at hSw); go_simp; try with_reducible rfl)
      simp only [Act.put, s1_, s2_, s3_]
      refine wpAnyH_take (i := 4) (oi := { dst := some 61, op := .load 9 (.tmp 60), type := 9, pos := "dn.go:53", after := #[{ on := 3, ground := .data }], guard := none }) (v := ?_) rfl (by kernel_rfl) (by kernel_rfl) (by kernel_rfl) (fun _ _ _ h => h) (Or.inl ⟨by rfl, ?y4⟩) (by assumption) ?_
      case y4 => (intro w_ hSw; (try dsimp only at hSw); go_simp; try with_reducible rfl)
      simp only [Act.put, s1_, s2_, s3_]
      refine wpAnyH_ready (rs := [2, 5, 7]) (by kernel_rfl) (by simp) ?_
      refine (AllReadyH.cons (o := { dst := some 59, op := .call { callee := .value (.func 57), args := #[.tmp 58], argTypes := #[9] }, type := 3, pos := "dn.go:53", after := #[{ on := 1, ground := .data }], guard := none }) rfl (fun K_ hK_ => ?_) (AllReadyH.cons (o := { dst := some 62, op := .convert 9 22 (.tmp 61), type := 22, pos := "dn.go:53", after := #[{ on := 4, ground := .data }], guard := none }) rfl (fun K_ hK_ => ?_) (AllReadyH.cons (o := { dst := some 12, op := .alloc 25, type := 0, pos := "dn.go:53", after := #[], guard := none }) rfl (fun K_ hK_ => ?_) AllReadyH.nil)))
      go_simp
      go_at_call 57
      refine (u_ Htag x0).mono ?_
      rintro e x1 ⟨rfl, hb⟩
      have HB1 := h_ (HB0.trans (hb.mono HB0.size))
      clear hb
      go_simp
      refine hK_.out _ _ (u_ HSx x1 (u_ HB1)) (fun hHeld => ?_)
      clear hK_ K_
      refine wpAnyH_ready (rs := [5, 7]) (by kernel_rfl) (by simp) ?_
      refine (AllReadyH.cons (o := { dst := some 62, op := .convert 9 22 (.tmp 61), type := 22, pos := "dn.go:53", after := #[{ on := 4, ground := .data }], guard := none }) rfl (fun K_ hK_ => ?_) (AllReadyH.cons (o := { dst := some 12, op := .alloc 25, type := 0, pos := "dn.go:53", after := #[], guard := none }) rfl (fun K_ hK_ => ?_) AllReadyH.nil))
      obtain ⟨cp, x2, hcv, hby, hb, hsz⟩ := conv_bytes2 x1 tx
      obtain ⟨BB, hBB⟩ := exq x1.heap.size
      rw [hBB, u_ HNT] at hcv hby
      have HB2 := h_ (HB1.trans (hb.mono HB1.size))
      have HY2 : Hid (BytesAt x2 (.slice (some ⟨BB, 0, none⟩) NT cp) (bs tx) ∧ w4.heap.size ≤ BB ∧ BB < x2.heap.size) := ⟨hby, by have := HB1.size; omega, by omega⟩
      go_simp
      clear hb hby hBB hsz hcv
      refine hK_.out _ _ (u_ HSx x2 (u_ HB2)) (fun hHeld => ?_)
      clear hK_ K_
      refine wpAnyH_take (i := 6) (oi := { dst := some 63, op := .build 25 #[(1, .tmp 59), (3, .tmp 62)], type := 25, pos := "dn.go:53", after := #[{ on := 2, ground := .data }, { on := 5, ground := .data }], guard := none }) (v := ?_) rfl (by kernel_rfl) (by kernel_rfl) (by kernel_rfl) (fun _ _ _ h => h) (Or.inl ⟨by rfl, ?y5⟩) (by assumption) ?_
      case y5 => (intro w_ hSw; (try dsimp only at hSw); go_simp; try with_reducible rfl)
      simp only [Act.put, s1_, s2_, s3_]
      refine wpAnyH_ready (rs := [7]) (by kernel_rfl) (by simp) ?_
      refine (AllReadyH.cons (o := { dst := some 12, op := .alloc 25, type := 0, pos := "dn.go:53", after := #[], guard := none }) rfl (fun K_ hK_ => ?_) AllReadyH.nil)
      obtain ⟨x3, TB, hc2, hTBe, hTn⟩ := blkN (u_ HB2) #[.int .i64 0, .int .i64 0, .bool false, .slice none 0 0, .slice none 0 0] 25
      have hb := allocB hc2
      have HB3 := h_ (HB2.trans (hb.mono HB2.size))
      have HY3 : Hid (BytesAt x3 (.slice (some ⟨BB, 0, none⟩) NT cp) (bs tx) ∧ w4.heap.size ≤ BB ∧ BB < x3.heap.size) := ⟨HY2.1.below hb, HY2.2.1, by have h1 := HY2.2.2; have h2 := hb.size; omega⟩
      have HT3 := h_ hTn
      have HTB : Hid (TB ≠ BB) := by have h1 := HY2.2.2; show _ ≠ _; omega
      go_simp
      clear hb hTn hc2 hTBe
      refine hK_.out _ _ (u_ HSx x3 (u_ HB3)) (fun hHeld => ?_)
      clear hK_ K_
      refine wpAnyH_ready (rs := [8]) (by kernel_rfl) (by simp) ?_
      refine (AllReadyH.cons (o := { dst := none, op := .store 25 (.tmp 12) (.tmp 63), type := 0, pos := "dn.go:53", after := #[{ on := 7, ground := .data }, { on := 6, ground := .data }, { on := 2, ground := .chain }, { on := 0, ground := .phase }, { on := 1, ground := .phase }, { on := 2, ground := .phase }, { on := 3, ground := .phase }, { on := 4, ground := .phase }, { on := 5, ground := .phase }, { on := 6, ground := .phase }, { on := 7, ground := .phase }], guard := none }) rfl (fun K_ hK_ => ?_) AllReadyH.nil)
      have hw_ : (#[.int .i64 0, .int .i64 (T : Int), .bool false, .slice (some ⟨BB, 0, none⟩) NT cp, .slice none 0 0] : Array Value).all (·.oneCell') = true := by simp [Value.oneCell']
      obtain ⟨w9, hw9⟩ := exq (x3.setRow TB #[.int .i64 0, .int .i64 (T : Int), .bool false, .slice (some ⟨BB, 0, none⟩) NT cp, .slice none 0 0])
      have HT9 : Hid (Blk w4 w9 TB #[.int .i64 0, .int .i64 (T : Int), .bool false, .slice (some ⟨BB, 0, none⟩) NT cp, .slice none 0 0] 25) := by show Blk _ _ _ _ _; rw [← hw9]; exact HT3.set _
      have HY9 : Hid (BytesAt w9 (.slice (some ⟨BB, 0, none⟩) NT cp) (bs tx) ∧ w4.heap.size ≤ BB) := ⟨by show BytesAt _ _ _; rw [← hw9]; exact bytes_setRow HY3.1 TB (u_ HTB) _, HY3.2.1⟩
      rw [if_pos (by rfl)]
      refine wp_store_row 25 _ _ rfl TB #[.int .i64 0, .int .i64 (T : Int), .bool false, .slice (some ⟨BB, 0, none⟩) NT cp, .slice none 0 0] rfl rfl 25 _ HT3.res value5 rfl hw_ ?_
      rw [hw9]
      clear hw9 hw_
      refine hK_.out _ _ (u_ HSx w9 HT9.b) (fun hHeld => ?_)
      clear hK_ K_
      refine wpAnyH_done (by kernel_rfl) ?_ _
      clear hHeld HB0 HB1 HB2 HB3 HT3 HY3
      rotate_left
      obtain ⟨x2, TB, hc2, hTBe, hTn⟩ := blkN (u_ HB1) #[.int .i64 0, .int .i64 0, .bool false, .slice none 0 0, .slice none 0 0] 25
      have hb := allocB hc2
      have HB2 := h_ (HB1.trans (hb.mono HB1.size))
      have HT2 := h_ hTn
      go_simp
      clear hb hTn hc2 hTBe
      refine hK_.out _ _ (u_ HSx x2 (u_ HB2)) (fun hHeld => ?_)
      clear hK_ K_
      refine wpAnyH_ready (rs := [5]) (by kernel_rfl) (by simp) ?_
      refine (AllReadyH.cons (o := { dst := some 62, op := .convert 9 22 (.tmp 61), type := 22, pos := "dn.go:53", after := #[{ on := 4, ground := .data }], guard := none }) rfl (fun K_ hK_ => ?_) AllReadyH.nil)
      obtain ⟨cp, x3, hcv, hby, hb, hsz⟩ := conv_bytes2 x2 tx
      obtain ⟨BB, hBB⟩ := exq x2.heap.size
      rw [hBB, u_ HNT] at hcv hby
      have HB3 := h_ (HB2.trans (hb.mono HB2.size))
      have HT3 := h_ (HT2.call hb)
      have HY3 : Hid (BytesAt x3 (.slice (some ⟨BB, 0, none⟩) NT cp) (bs tx) ∧ w4.heap.size ≤ BB ∧ BB < x3.heap.size) := ⟨hby, by have := HB2.size; omega, by omega⟩
      have HTB : Hid (TB ≠ BB) := by have h1 := HT2.lt; show _ ≠ _; omega
      go_simp
      clear hb hby hBB hsz hcv
      refine hK_.out _ _ (u_ HSx x3 (u_ HB3)) (fun hHeld => ?_)
      clear hK_ K_
      refine wpAnyH_take (i := 6) (oi := { dst := some 63, op := .build 25 #[(1, .tmp 59), (3, .tmp 62)], type := 25, pos := "dn.go:53", after := #[{ on := 2, ground := .data }, { on := 5, ground := .data }], guard := none }) (v := ?_) rfl (by kernel_rfl) (by kernel_rfl) (by kernel_rfl) (fun _ _ _ h => h) (Or.inl ⟨by rfl, ?y6⟩) (by assumption) ?_
      case y6 => (intro w_ hSw; (try dsimp only at hSw); go_simp; try with_reducible rfl)
      simp only [Act.put, s1_, s2_, s3_]
      refine wpAnyH_ready (rs := [8]) (by kernel_rfl) (by simp) ?_
      refine (AllReadyH.cons (o := { dst := none, op := .store 25 (.tmp 12) (.tmp 63), type := 0, pos := "dn.go:53", after := #[{ on := 7, ground := .data }, { on := 6, ground := .data }, { on := 2, ground := .chain }, { on := 0, ground := .phase }, { on := 1, ground := .phase }, { on := 2, ground := .phase }, { on := 3, ground := .phase }, { on := 4, ground := .phase }, { on := 5, ground := .phase }, { on := 6, ground := .phase }, { on := 7, ground := .phase }], guard := none }) rfl (fun K_ hK_ => ?_) AllReadyH.nil)
      have hw_ : (#[.int .i64 0, .int .i64 (T : Int), .bool false, .slice (some ⟨BB, 0, none⟩) NT cp, .slice none 0 0] : Array Value).all (·.oneCell') = true := by simp [Value.oneCell']
      obtain ⟨w9, hw9⟩ := exq (x3.setRow TB #[.int .i64 0, .int .i64 (T : Int), .bool false, .slice (some ⟨BB, 0, none⟩) NT cp, .slice none 0 0])
      have HT9 : Hid (Blk w4 w9 TB #[.int .i64 0, .int .i64 (T : Int), .bool false, .slice (some ⟨BB, 0, none⟩) NT cp, .slice none 0 0] 25) := by show Blk _ _ _ _ _; rw [← hw9]; exact HT3.set _
      have HY9 : Hid (BytesAt w9 (.slice (some ⟨BB, 0, none⟩) NT cp) (bs tx) ∧ w4.heap.size ≤ BB) := ⟨by show BytesAt _ _ _; rw [← hw9]; exact bytes_setRow HY3.1 TB (u_ HTB) _, HY3.2.1⟩
      rw [if_pos (by rfl)]
      refine wp_store_row 25 _ _ rfl TB #[.int .i64 0, .int .i64 (T : Int), .bool false, .slice (some ⟨BB, 0, none⟩) NT cp, .slice none 0 0] rfl rfl 25 _ HT3.res value5 rfl hw_ ?_
      rw [hw9]
      clear hw9 hw_
      refine hK_.out _ _ (u_ HSx w9 HT9.b) (fun hHeld => ?_)
      clear hK_ K_
      refine wpAnyH_done (by kernel_rfl) ?_ _
      clear hHeld HB0 HB1 HB2 HB3 HT3 HY3
      rotate_left
      obtain ⟨cp, x1, hcv, hby, hb, hsz⟩ := conv_bytes2 x0 tx
      obtain ⟨BB, hBB⟩ := exq x0.heap.size
      rw [hBB, u_ HNT] at hcv hby
      have HB1 := h_ (HB0.trans (hb.mono HB0.size))
      have HY1 : Hid (BytesAt x1 (.slice (some ⟨BB, 0, none⟩) NT cp) (bs tx) ∧ w4.heap.size ≤ BB ∧ BB < x1.heap.size) := ⟨hby, by have := HB0.size; omega, by omega⟩
      go_simp
      clear hb hby hBB hsz hcv
      refine hK_.out _ _ (u_ HSx x1 (u_ HB1)) (fun hHeld => ?_)
      clear hK_ K_
      refine wpAnyH_ready (rs := [2, 7]) (by kernel_rfl) (by simp) ?_
      refine (AllReadyH.cons (o := { dst := some 59, op := .call { callee := .value (.func 57), args := #[.tmp 58], argTypes := #[9] }, type := 3, pos := "dn.go:53", after := #[{ on := 1, ground := .data }], guard := none }) rfl (fun K_ hK_ => ?_) (AllReadyH.cons (o := { dst := some 12, op := .alloc 25, type := 0, pos := "dn.go:53", after := #[], guard := none }) rfl (fun K_ hK_ => ?_) AllReadyH.nil))
      go_simp
      go_at_call 57
      refine (u_ Htag x1).mono ?_
      rintro e x2 ⟨rfl, hb⟩
      have HB2 := h_ (HB1.trans (hb.mono HB1.size))
      have HY2 : Hid (BytesAt x2 (.slice (some ⟨BB, 0, none⟩) NT cp) (bs tx) ∧ w4.heap.size ≤ BB ∧ BB < x2.heap.size) := ⟨HY1.1.below hb, HY1.2.1, by have h1 := HY1.2.2; have h2 := hb.size; omega⟩
      clear hb
      go_simp
      refine hK_.out _ _ (u_ HSx x2 (u_ HB2)) (fun hHeld => ?_)
      clear hK_ K_
      refine wpAnyH_take (i := 6) (oi := { dst := some 63, op := .build 25 #[(1, .tmp 59), (3, .tmp 62)], type := 25, pos := "dn.go:53", after := #[{ on := 2, ground := .data }, { on := 5, ground := .data }], guard := none }) (v := ?_) rfl (by kernel_rfl) (by kernel_rfl) (by kernel_rfl) (fun _ _ _ h => h) (Or.inl ⟨by rfl, ?y7⟩) (by assumption) ?_
      case y7 => (intro w_ hSw; (try dsimp only at hSw); go_simp; try with_reducible rfl)
      simp only [Act.put, s1_, s2_, s3_]
      refine wpAnyH_ready (rs := [7]) (by kernel_rfl) (by simp) ?_
      refine (AllReadyH.cons (o := { dst := some 12, op := .alloc 25, type := 0, pos := "dn.go:53", after := #[], guard := none }) rfl (fun K_ hK_ => ?_) AllReadyH.nil)
      obtain ⟨x3, TB, hc2, hTBe, hTn⟩ := blkN (u_ HB2) #[.int .i64 0, .int .i64 0, .bool false, .slice none 0 0, .slice none 0 0] 25
      have hb := allocB hc2
      have HB3 := h_ (HB2.trans (hb.mono HB2.size))
      have HY3 : Hid (BytesAt x3 (.slice (some ⟨BB, 0, none⟩) NT cp) (bs tx) ∧ w4.heap.size ≤ BB ∧ BB < x3.heap.size) := ⟨HY2.1.below hb, HY2.2.1, by have h1 := HY2.2.2; have h2 := hb.size; omega⟩
      have HT3 := h_ hTn
      have HTB : Hid (TB ≠ BB) := by have h1 := HY2.2.2; show _ ≠ _; omega
      go_simp
      clear hb hTn hc2 hTBe
      refine hK_.out _ _ (u_ HSx x3 (u_ HB3)) (fun hHeld => ?_)
      clear hK_ K_
      refine wpAnyH_ready (rs := [8]) (by kernel_rfl) (by simp) ?_
      refine (AllReadyH.cons (o := { dst := none, op := .store 25 (.tmp 12) (.tmp 63), type := 0, pos := "dn.go:53", after := #[{ on := 7, ground := .data }, { on := 6, ground := .data }, { on := 2, ground := .chain }, { on := 0, ground := .phase }, { on := 1, ground := .phase }, { on := 2, ground := .phase }, { on := 3, ground := .phase }, { on := 4, ground := .phase }, { on := 5, ground := .phase }, { on := 6, ground := .phase }, { on := 7, ground := .phase }], guard := none }) rfl (fun K_ hK_ => ?_) AllReadyH.nil)
      have hw_ : (#[.int .i64 0, .int .i64 (T : Int), .bool false, .slice (some ⟨BB, 0, none⟩) NT cp, .slice none 0 0] : Array Value).all (·.oneCell') = true := by simp [Value.oneCell']
      obtain ⟨w9, hw9⟩ := exq (x3.setRow TB #[.int .i64 0, .int .i64 (T : Int), .bool false, .slice (some ⟨BB, 0, none⟩) NT cp, .slice none 0 0])
      have HT9 : Hid (Blk w4 w9 TB #[.int .i64 0, .int .i64 (T : Int), .bool false, .slice (some ⟨BB, 0, none⟩) NT cp, .slice none 0 0] 25) := by show Blk _ _ _ _ _; rw [← hw9]; exact HT3.set _
      have HY9 : Hid (BytesAt w9 (.slice (some ⟨BB, 0, none⟩) NT cp) (bs tx) ∧ w4.heap.size ≤ BB) := ⟨by show BytesAt _ _ _; rw [← hw9]; exact bytes_setRow HY3.1 TB (u_ HTB) _, HY3.2.1⟩
      rw [if_pos (by rfl)]
      refine wp_store_row 25 _ _ rfl TB #[.int .i64 0, .int .i64 (T : Int), .bool false, .slice (some ⟨BB, 0, none⟩) NT cp, .slice none 0 0] rfl rfl 25 _ HT3.res value5 rfl hw_ ?_
      rw [hw9]
      clear hw9 hw_
      refine hK_.out _ _ (u_ HSx w9 HT9.b) (fun hHeld => ?_)
      clear hK_ K_
      refine wpAnyH_done (by kernel_rfl) ?_ _
      clear hHeld HB0 HB1 HB2 HB3 HT3 HY3
      rotate_left
      obtain ⟨x2, TB, hc2, hTBe, hTn⟩ := blkN (u_ HB1) #[.int .i64 0, .int .i64 0, .bool false, .slice none 0 0, .slice none 0 0] 25
      have hb := allocB hc2
      have HB2 := h_ (HB1.trans (hb.mono HB1.size))
      have HY2 : Hid (BytesAt x2 (.slice (some ⟨BB, 0, none⟩) NT cp) (bs tx) ∧ w4.heap.size ≤ BB ∧ BB < x2.heap.size) := ⟨HY1.1.below hb, HY1.2.1, by have h1 := HY1.2.2; have h2 := hb.size; omega⟩
      have HT2 := h_ hTn
      have HTB : Hid (TB ≠ BB) := by have h1 := HY1.2.2; show _ ≠ _; omega
      go_simp
      clear hb hTn hc2 hTBe
      refine hK_.out _ _ (u_ HSx x2 (u_ HB2)) (fun hHeld => ?_)
      clear hK_ K_
      refine wpAnyH_ready (rs := [2]) (by kernel_rfl) (by simp) ?_
      refine (AllReadyH.cons (o := { dst := some 59, op := .call { callee := .value (.func 57), args := #[.tmp 58], argTypes := #[9] }, type := 3, pos := "dn.go:53", after := #[{ on := 1, ground := .data }], guard := none }) rfl (fun K_ hK_ => ?_) AllReadyH.nil)
      go_simp
      go_at_call 57
      refine (u_ Htag x2).mono ?_
      rintro e x3 ⟨rfl, hb⟩
      have HB3 := h_ (HB2.trans (hb.mono HB2.size))
      have HT3 := h_ (HT2.call hb)
      have HY3 : Hid (BytesAt x3 (.slice (some ⟨BB, 0, none⟩) NT cp) (bs tx) ∧ w4.heap.size ≤ BB ∧ BB < x3.heap.size) := ⟨HY2.1.below hb, HY2.2.1, by have h1 := HY2.2.2; have h2 := hb.size; omega⟩
      clear hb
      go_simp
      refine hK_.out _ _ (u_ HSx x3 (u_ HB3)) (fun hHeld => ?_)
      clear hK_ K_
      refine wpAnyH_take (i := 6) (oi := { dst := some 63, op := .build 25 #[(1, .tmp 59), (3, .tmp 62)], type := 25, pos := "dn.go:53", after := #[{ on := 2, ground := .data }, { on := 5, ground := .data }], guard := none }) (v := ?_) rfl (by kernel_rfl) (by kernel_rfl) (by kernel_rfl) (fun _ _ _ h => h) (Or.inl ⟨by rfl, ?y8⟩) (by assumption) ?_
      case y8 => (intro w_ hSw; (try dsimp only at hSw); go_simp; try with_reducible rfl)
      simp only [Act.put, s1_, s2_, s3_]
      refine wpAnyH_ready (rs := [8]) (by kernel_rfl) (by simp) ?_
      refine (AllReadyH.cons (o := { dst := none, op := .store 25 (.tmp 12) (.tmp 63), type := 0, pos := "dn.go:53", after := #[{ on := 7, ground := .data }, { on := 6, ground := .data }, { on := 2, ground := .chain }, { on := 0, ground := .phase }, { on := 1, ground := .phase }, { on := 2, ground := .phase }, { on := 3, ground := .phase }, { on := 4, ground := .phase }, { on := 5, ground := .phase }, { on := 6, ground := .phase }, { on := 7, ground := .phase }], guard := none }) rfl (fun K_ hK_ => ?_) AllReadyH.nil)
      have hw_ : (#[.int .i64 0, .int .i64 (T : Int), .bool false, .slice (some ⟨BB, 0, none⟩) NT cp, .slice none 0 0] : Array Value).all (·.oneCell') = true := by simp [Value.oneCell']
      obtain ⟨w9, hw9⟩ := exq (x3.setRow TB #[.int .i64 0, .int .i64 (T : Int), .bool false, .slice (some ⟨BB, 0, none⟩) NT cp, .slice none 0 0])
      have HT9 : Hid (Blk w4 w9 TB #[.int .i64 0, .int .i64 (T : Int), .bool false, .slice (some ⟨BB, 0, none⟩) NT cp, .slice none 0 0] 25) := by show Blk _ _ _ _ _; rw [← hw9]; exact HT3.set _
      have HY9 : Hid (BytesAt w9 (.slice (some ⟨BB, 0, none⟩) NT cp) (bs tx) ∧ w4.heap.size ≤ BB) := ⟨by show BytesAt _ _ _; rw [← hw9]; exact bytes_setRow HY3.1 TB (u_ HTB) _, HY3.2.1⟩
      rw [if_pos (by rfl)]
      refine wp_store_row 25 _ _ rfl TB #[.int .i64 0, .int .i64 (T : Int), .bool false, .slice (some ⟨BB, 0, none⟩) NT cp, .slice none 0 0] rfl rfl 25 _ HT3.res value5 rfl hw_ ?_
      rw [hw9]
      clear hw9 hw_
      refine hK_.out _ _ (u_ HSx w9 HT9.b) (fun hHeld => ?_)
      clear hK_ K_
      refine wpAnyH_done (by kernel_rfl) ?_ _
      clear hHeld HB0 HB1 HB2 HB3 HT3 HY3
      rotate_left
      obtain ⟨x1, TB, hc2, hTBe, hTn⟩ := blkN (u_ HB0) #[.int .i64 0, .int .i64 0, .bool false, .slice none 0 0, .slice none 0 0] 25
      have hb := allocB hc2
      have HB1 := h_ (HB0.trans (hb.mono HB0.size))
      have HT1 := h_ hTn
      go_simp
      clear hb hTn hc2 hTBe
      refine hK_.out _ _ (u_ HSx x1 (u_ HB1)) (fun hHeld => ?_)
      clear hK_ K_
      refine wpAnyH_ready (rs := [2, 5]) (by kernel_rfl) (by simp) ?_
      refine (AllReadyH.cons (o := { dst := some 59, op := .call { callee := .value (.func 57), args := #[.tmp 58], argTypes := #[9] }, type := 3, pos := "dn.go:53", after := #[{ on := 1, ground := .data }], guard := none }) rfl (fun K_ hK_ => ?_) (AllReadyH.cons (o := { dst := some 62, op := .convert 9 22 (.tmp 61), type := 22, pos := "dn.go:53", after := #[{ on := 4, ground := .data }], guard := none }) rfl (fun K_ hK_ => ?_) AllReadyH.nil))
      go_simp
      go_at_call 57
      refine (u_ Htag x1).mono ?_
      rintro e x2 ⟨rfl, hb⟩
      have HB2 := h_ (HB1.trans (hb.mono HB1.size))
      have HT2 := h_ (HT1.call hb)
      clear hb
      go_simp
      refine hK_.out _ _ (u_ HSx x2 (u_ HB2)) (fun hHeld => ?_)
      clear hK_ K_
      refine wpAnyH_ready (rs := [5]) (by kernel_rfl) (by simp) ?_
      refine (AllReadyH.cons (o := { dst := some 62, op := .convert 9 22 (.tmp 61), type := 22, pos := "dn.go:53", after := #[{ on := 4, ground := .data }], guard := none }) rfl (fun K_ hK_ => ?_) AllReadyH.nil)
      obtain ⟨cp, x3, hcv, hby, hb, hsz⟩ := conv_bytes2 x2 tx
      obtain ⟨BB, hBB⟩ := exq x2.heap.size
      rw [hBB, u_ HNT] at hcv hby
      have HB3 := h_ (HB2.trans (hb.mono HB2.size))
      have HT3 := h_ (HT2.call hb)
      have HY3 : Hid (BytesAt x3 (.slice (some ⟨BB, 0, none⟩) NT cp) (bs tx) ∧ w4.heap.size ≤ BB ∧ BB < x3.heap.size) := ⟨hby, by have := HB2.size; omega, by omega⟩
      have HTB : Hid (TB ≠ BB) := by have h1 := HT2.lt; show _ ≠ _; omega
      go_simp
      clear hb hby hBB hsz hcv
      refine hK_.out _ _ (u_ HSx x3 (u_ HB3)) (fun hHeld => ?_)
      clear hK_ K_
      refine wpAnyH_take (i := 6) (oi := { dst := some 63, op := .build 25 #[(1, .tmp 59), (3, .tmp 62)], type := 25, pos := "dn.go:53", after := #[{ on := 2, ground := .data }, { on := 5, ground := .data }], guard := none }) (v := ?_) rfl (by kernel_rfl) (by kernel_rfl) (by kernel_rfl) (fun _ _ _ h => h) (Or.inl ⟨by rfl, ?y9⟩) (by assumption) ?_
      case y9 => (intro w_ hSw; (try dsimp only at hSw); go_simp; try with_reducible rfl)
      simp only [Act.put, s1_, s2_, s3_]
      refine wpAnyH_ready (rs := [8]) (by kernel_rfl) (by simp) ?_
      refine (AllReadyH.cons (o := { dst := none, op := .store 25 (.tmp 12) (.tmp 63), type := 0, pos := "dn.go:53", after := #[{ on := 7, ground := .data }, { on := 6, ground := .data }, { on := 2, ground := .chain }, { on := 0, ground := .phase }, { on := 1, ground := .phase }, { on := 2, ground := .phase }, { on := 3, ground := .phase }, { on := 4, ground := .phase }, { on := 5, ground := .phase }, { on := 6, ground := .phase }, { on := 7, ground := .phase }], guard := none }) rfl (fun K_ hK_ => ?_) AllReadyH.nil)
      have hw_ : (#[.int .i64 0, .int .i64 (T : Int), .bool false, .slice (some ⟨BB, 0, none⟩) NT cp, .slice none 0 0] : Array Value).all (·.oneCell') = true := by simp [Value.oneCell']
      obtain ⟨w9, hw9⟩ := exq (x3.setRow TB #[.int .i64 0, .int .i64 (T : Int), .bool false, .slice (some ⟨BB, 0, none⟩) NT cp, .slice none 0 0])
      have HT9 : Hid (Blk w4 w9 TB #[.int .i64 0, .int .i64 (T : Int), .bool false, .slice (some ⟨BB, 0, none⟩) NT cp, .slice none 0 0] 25) := by show Blk _ _ _ _ _; rw [← hw9]; exact HT3.set _
      have HY9 : Hid (BytesAt w9 (.slice (some ⟨BB, 0, none⟩) NT cp) (bs tx) ∧ w4.heap.size ≤ BB) := ⟨by show BytesAt _ _ _; rw [← hw9]; exact bytes_setRow HY3.1 TB (u_ HTB) _, HY3.2.1⟩
      rw [if_pos (by rfl)]
      refine wp_store_row 25 _ _ rfl TB #[.int .i64 0, .int .i64 (T : Int), .bool false, .slice (some ⟨BB, 0, none⟩) NT cp, .slice none 0 0] rfl rfl 25 _ HT3.res value5 rfl hw_ ?_
      rw [hw9]
      clear hw9 hw_
      refine hK_.out _ _ (u_ HSx w9 HT9.b) (fun hHeld => ?_)
      clear hK_ K_
      refine wpAnyH_done (by kernel_rfl) ?_ _
      clear hHeld HB0 HB1 HB2 HB3 HT3 HY3
      rotate_left
      obtain ⟨cp, x2, hcv, hby, hb, hsz⟩ := conv_bytes2 x1 tx
      obtain ⟨BB, hBB⟩ := exq x1.heap.size
      rw [hBB, u_ HNT] at hcv hby
      have HB2 := h_ (HB1.trans (hb.mono HB1.size))
      have HT2 := h_ (HT1.call hb)
      have HY2 : Hid (BytesAt x2 (.slice (some ⟨BB, 0, none⟩) NT cp) (bs tx) ∧ w4.heap.size ≤ BB ∧ BB < x2.heap.size) := ⟨hby, by have := HB1.size; omega, by omega⟩
      have HTB : Hid (TB ≠ BB) := by have h1 := HT1.lt; show _ ≠ _; omega
      go_simp
      clear hb hby hBB hsz hcv
      refine hK_.out _ _ (u_ HSx x2 (u_ HB2)) (fun hHeld => ?_)
      clear hK_ K_
      refine wpAnyH_ready (rs := [2]) (by kernel_rfl) (by simp) ?_
      refine (AllReadyH.cons (o := { dst := some 59, op := .call { callee := .value (.func 57), args := #[.tmp 58], argTypes := #[9] }, type := 3, pos := "dn.go:53", after := #[{ on := 1, ground := .data }], guard := none }) rfl (fun K_ hK_ => ?_) AllReadyH.nil)
      go_simp
      go_at_call 57
      refine (u_ Htag x2).mono ?_
      rintro e x3 ⟨rfl, hb⟩
      have HB3 := h_ (HB2.trans (hb.mono HB2.size))
      have HT3 := h_ (HT2.call hb)
      have HY3 : Hid (BytesAt x3 (.slice (some ⟨BB, 0, none⟩) NT cp) (bs tx) ∧ w4.heap.size ≤ BB ∧ BB < x3.heap.size) := ⟨HY2.1.below hb, HY2.2.1, by have h1 := HY2.2.2; have h2 := hb.size; omega⟩
      clear hb
      go_simp
      refine hK_.out _ _ (u_ HSx x3 (u_ HB3)) (fun hHeld => ?_)
      clear hK_ K_
      refine wpAnyH_take (i := 6) (oi := { dst := some 63, op := .build 25 #[(1, .tmp 59), (3, .tmp 62)], type := 25, pos := "dn.go:53", after := #[{ on := 2, ground := .data }, { on := 5, ground := .data }], guard := none }) (v := ?_) rfl (by kernel_rfl) (by kernel_rfl) (by kernel_rfl) (fun _ _ _ h => h) (Or.inl ⟨by rfl, ?y10⟩) (by assumption) ?_
      case y10 => (intro w_ hSw; (try dsimp only at hSw); go_simp; try with_reducible rfl)
      simp only [Act.put, s1_, s2_, s3_]
      refine wpAnyH_ready (rs := [8]) (by kernel_rfl) (by simp) ?_
      refine (AllReadyH.cons (o := { dst := none, op := .store 25 (.tmp 12) (.tmp 63), type := 0, pos := "dn.go:53", after := #[{ on := 7, ground := .data }, { on := 6, ground := .data }, { on := 2, ground := .chain }, { on := 0, ground := .phase }, { on := 1, ground := .phase }, { on := 2, ground := .phase }, { on := 3, ground := .phase }, { on := 4, ground := .phase }, { on := 5, ground := .phase }, { on := 6, ground := .phase }, { on := 7, ground := .phase }], guard := none }) rfl (fun K_ hK_ => ?_) AllReadyH.nil)
      have hw_ : (#[.int .i64 0, .int .i64 (T : Int), .bool false, .slice (some ⟨BB, 0, none⟩) NT cp, .slice none 0 0] : Array Value).all (·.oneCell') = true := by simp [Value.oneCell']
      obtain ⟨w9, hw9⟩ := exq (x3.setRow TB #[.int .i64 0, .int .i64 (T : Int), .bool false, .slice (some ⟨BB, 0, none⟩) NT cp, .slice none 0 0])
      have HT9 : Hid (Blk w4 w9 TB #[.int .i64 0, .int .i64 (T : Int), .bool false, .slice (some ⟨BB, 0, none⟩) NT cp, .slice none 0 0] 25) := by show Blk _ _ _ _ _; rw [← hw9]; exact HT3.set _
      have HY9 : Hid (BytesAt w9 (.slice (some ⟨BB, 0, none⟩) NT cp) (bs tx) ∧ w4.heap.size ≤ BB) := ⟨by show BytesAt _ _ _; rw [← hw9]; exact bytes_setRow HY3.1 TB (u_ HTB) _, HY3.2.1⟩
      rw [if_pos (by rfl)]
      refine wp_store_row 25 _ _ rfl TB #[.int .i64 0, .int .i64 (T : Int), .bool false, .slice (some ⟨BB, 0, none⟩) NT cp, .slice none 0 0] rfl rfl 25 _ HT3.res value5 rfl hw_ ?_
      rw [hw9]
      clear hw9 hw_
      refine hK_.out _ _ (u_ HSx w9 HT9.b) (fun hHeld => ?_)
      clear hK_ K_
      refine wpAnyH_done (by kernel_rfl) ?_ _
      clear hHeld HB0 HB1 HB2 HB3 HT3 HY3
      rotate_left
      all_goals
       go_wp2
       have HR9 := h_ (HR4.call HT9.b)
       have HDo9 := h_ (HDo4.below HT9.b)
       have HDs9 := h_ (HDs4.below HT9.b)
       obtain ⟨ds, hcd, hvd⟩ := HDo9.at_ k (oidV a.1) (by rw [List.getElem?_map, u_ Hda]; rfl)
       obtain ⟨nd, hvd⟩ := hvd
       obtain ⟨p1, q1, p2, q2, rfl⟩ := hvd.form
       obtain ⟨uc, huc⟩ := exq ((oidV a.1).cls)
       obtain ⟨ut, hut⟩ := exq ((oidV a.1).tag)
       obtain ⟨um, hum⟩ := exq ((oidV a.1).made)
       obtain ⟨ul, hul⟩ := exq ((oidV a.1).bytes.length)
       obtain ⟨uk, huk⟩ := exq ((oidV a.1).kids.length)
       rw [huc, hut, hum, hul, huk] at hvd hcd
       have HVd := h_ hvd
       have HCd := h_ hcd
       clear huc hut hum hul huk hvd hcd HR4 HDo4 HDs4 HA4
       have HSy : Hid (∀ w', Below w9.heap.size w9 w' → w'.cell? ⟨B1, k * 5, none⟩ = some (.int .i64 uc) ∧ w'.cell? ⟨B1, k * 5 + 1, none⟩ = some (.int .i64 ut) ∧ w'.cell? ⟨B1, k * 5 + 2, none⟩ = some (.bool um) ∧ w'.cell? ⟨B1, k * 5 + 3, none⟩ = some (.slice p1 ul q1) ∧ w'.cell? ⟨B1, k * 5 + 4, none⟩ = some (.slice p2 uk q2) ∧ w'.cell? ⟨TB, 0, none⟩ = some (.int .i64 0) ∧ w'.cell? ⟨TB, 1, none⟩ = some (.int .i64 (T : Int)) ∧ w'.cell? ⟨TB, 2, none⟩ = some (.bool false) ∧ w'.cell? ⟨TB, 3, none⟩ = some (.slice (some ⟨BB, 0, none⟩) NT cp) ∧ w'.cell? ⟨TB, 4, none⟩ = some (.slice none 0 0)) := fun wr hb => by
        obtain ⟨g0, g1, g2, g3, g4⟩ := (HCd.below hb).five
        obtain ⟨t0, t1, t2, t3, t4⟩ := five_at (HT9.call hb)
        exact ⟨g0, g1, g2, g3, g4, t0, t1, t2, t3, t4⟩
       refine wp_region_held_drew (S := fun w' => w'.cell? ⟨B1, k * 5, none⟩ = some (.int .i64 uc) ∧ w'.cell? ⟨B1, k * 5 + 1, none⟩ = some (.int .i64 ut) ∧ w'.cell? ⟨B1, k * 5 + 2, none⟩ = some (.bool um) ∧ w'.cell? ⟨B1, k * 5 + 3, none⟩ = some (.slice p1 ul q1) ∧ w'.cell? ⟨B1, k * 5 + 4, none⟩ = some (.slice p2 uk q2) ∧ w'.cell? ⟨TB, 0, none⟩ = some (.int .i64 0) ∧ w'.cell? ⟨TB, 1, none⟩ = some (.int .i64 (T : Int)) ∧ w'.cell? ⟨TB, 2, none⟩ = some (.bool false) ∧ w'.cell? ⟨TB, 3, none⟩ = some (.slice (some ⟨BB, 0, none⟩) NT cp) ∧ w'.cell? ⟨TB, 4, none⟩ = some (.slice none 0 0)) (by kernel_rfl) (u_ HSy _ (Below.refl _ _).drew) (fun hHeld => ?_)
       obtain ⟨y0, hy0⟩ := exq w9.drew
       have HB0 : Hid (Below w9.heap.size w9 y0) := by show Below _ _ _; rw [← hy0]; exact (Below.refl _ _).drew
       rw [hy0] at hHeld ⊢
       clear hy0
       obtain ⟨g0, g1, g2, g3, g4, t0, t1, t2, t3, t4⟩ := hHeld
       refine wpAnyH_take (i := 0) (oi := { dst := some 64, op := .move (.tmp 4), type := 23, pos := "dn.go:54", after := #[], guard := none }) (v := ?_) rfl (by kernel_rfl) (by kernel_rfl) (by kernel_rfl) (fun _ _ _ h => h) (Or.inl ⟨by rfl, ?y1⟩) (u_ HSy _ (u_ HB0)) ?_
       case y1 => (intro w_ hSw; obtain ⟨g0, g1, g2, g3, g4, t0, t1, t2, t3, t4⟩ := hSw; go_simp; try with_reducible rfl)
       simp only [Act.put, s1_, s2_, s3_]
       refine wpAnyH_take (i := 1) (oi := { dst := some 65, op := .move (.tmp 10), type := 3, pos := "dn.go:54", after := #[], guard := none }) (v := ?_) rfl (by kernel_rfl) (by kernel_rfl) (by kernel_rfl) (fun _ _ _ h => h) (Or.inl ⟨by rfl, ?y2⟩) (u_ HSy _ (u_ HB0)) ?_
       case y2 => (intro w_ hSw; obtain ⟨g0, g1, g2, g3, g4, t0, t1, t2, t3, t4⟩ := hSw; go_simp; try with_reducible rfl)
       simp only [Act.put, s1_, s2_, s3_]
       refine wpAnyH_take (i := 2) (oi := { dst := some 66, op := .indexAddr 23 (.tmp 64) (.tmp 65), type := 0, pos := "dn.go:54", after := #[{ on := 0, ground := .data }, { on := 1, ground := .data }], guard := none }) (v := ?_) rfl (by kernel_rfl) (by kernel_rfl) (by kernel_rfl) (fun _ _ _ h => h) (Or.inl ⟨by rfl, ?y3⟩) (u_ HSy _ (u_ HB0)) ?_
       case y3 => (intro w_ hSw; obtain ⟨g0, g1, g2, g3, g4, t0, t1, t2, t3, t4⟩ := hSw; go_simp; try with_reducible rfl)
       simp only [Act.put, s1_, s2_, s3_]
       refine wpAnyH_take (i := 3) (oi := { dst := some 67, op := .load 25 (.tmp 66), type := 25, pos := "dn.go:54", after := #[{ on := 2, ground := .data }], guard := none }) (v := ?_) rfl (by kernel_rfl) (by kernel_rfl) (by kernel_rfl) (fun _ _ _ h => h) (Or.inl ⟨by rfl, ?y4⟩) (u_ HSy _ (u_ HB0)) ?_
       case y4 => (intro w_ hSw; obtain ⟨g0, g1, g2, g3, g4, t0, t1, t2, t3, t4⟩ := hSw; go_simp; try with_reducible rfl)
       simp only [Act.put, s1_, s2_, s3_]
       refine wpAnyH_take (i := 4) (oi := { dst := some 68, op := .load 25 (.tmp 12), type := 25, pos := "dn.go:54", after := #[], guard := none }) (v := ?_) rfl (by kernel_rfl) (by kernel_rfl) (by kernel_rfl) (fun _ _ _ h => h) (Or.inl ⟨by rfl, ?y5⟩) (u_ HSy _ (u_ HB0)) ?_
       case y5 => (intro w_ hSw; obtain ⟨g0, g1, g2, g3, g4, t0, t1, t2, t3, t4⟩ := hSw; go_simp; try with_reducible rfl)
       simp only [Act.put, s1_, s2_, s3_]
       clear g0 g1 g2 g3 g4 t0 t1 t2 t3 t4
       refine wpAnyH_ready (rs := [5, 7]) (by kernel_rfl) (by simp) ?_
       refine (AllReadyH.cons (o := { dst := some 69, op := .buildSlice 23 2 #[(0, .tmp 67), (1, .tmp 68)], type := 23, pos := "dn.go:54", after := #[{ on := 3, ground := .data }, { on := 4, ground := .data }], guard := none }) rfl (fun K_ hK_ => ?_) (AllReadyH.cons (o := { dst := some 13, op := .alloc 25, type := 0, pos := "dn.go:54", after := #[], guard := none }) rfl (fun K_ hK_ => ?_) AllReadyH.nil))
       obtain ⟨y1, KB, hc2, hTBe, hTn⟩ := blkN (u_ HB0) #[.int .i64 uc, .int .i64 ut, .bool um, .slice p1 ul q1, .slice p2 uk q2, .int .i64 0, .int .i64 (T : Int), .bool false, .slice (some ⟨BB, 0, none⟩) NT cp, .slice none 0 0] 25
       have hb := allocB hc2
       have HB1 := h_ (HB0.trans (hb.mono HB0.size))
       have HK1 := h_ hTn
       go_simp
       clear hb hTn hc2 hTBe
       refine hK_.out _ _ (u_ HSy y1 (u_ HB1)) (fun hHeld => ?_)
       clear hK_ K_
       refine wpAnyH_ready (rs := [6, 7]) (by kernel_rfl) (by simp) ?_
       refine (AllReadyH.cons (o := { dst := some 70, op := .call { callee := .value (.func 61), args := #[.const (.int .i64 16), .tmp 69], argTypes := #[3, 23] }, type := 25, pos := "dn.go:54", after := #[{ on := 5, ground := .data }], guard := none }) rfl (fun K_ hK_ => ?_) (AllReadyH.cons (o := { dst := some 13, op := .alloc 25, type := 0, pos := "dn.go:54", after := #[], guard := none }) rfl (fun K_ hK_ => ?_) AllReadyH.nil))
       go_simp
       go_at_call 61
       refine (made_c y1 16 (some ⟨KB, 0, none⟩) 2 2).mono ?_
       rintro e y2 ⟨rfl, hb⟩
       have HB2 := h_ (HB1.trans (hb.mono HB1.size))
       have HK2 := h_ (HK1.call hb)
       clear hb
       go_simp
       refine hK_.out _ _ (u_ HSy y2 (u_ HB2)) (fun hHeld => ?_)
       clear hK_ K_
       refine wpAnyH_ready (rs := [7]) (by kernel_rfl) (by simp) ?_
       refine (AllReadyH.cons (o := { dst := some 13, op := .alloc 25, type := 0, pos := "dn.go:54", after := #[], guard := none }) rfl (fun K_ hK_ => ?_) AllReadyH.nil)
       obtain ⟨y3, PB, hc2, hTBe, hTn⟩ := blkN (u_ HB2) #[.int .i64 0, .int .i64 0, .bool false, .slice none 0 0, .slice none 0 0] 25
       have hb := allocB hc2
       have HB3 := h_ (HB2.trans (hb.mono HB2.size))
       have HK3 := h_ (HK2.call hb)
       have HP3 := h_ hTn
       have HKP : Hid (KB ≠ PB) := by have h1 := HK2.lt; show _ ≠ _; omega
       go_simp
       clear hb hTn hc2 hTBe
       refine hK_.out _ _ (u_ HSy y3 (u_ HB3)) (fun hHeld => ?_)
       clear hK_ K_
       refine wpAnyH_ready (rs := [8]) (by kernel_rfl) (by simp) ?_
       refine (AllReadyH.cons (o := { dst := none, op := .store 25 (.tmp 13) (.tmp 70), type := 0, pos := "dn.go:54", after := #[{ on := 7, ground := .data }, { on := 6, ground := .data }, { on := 6, ground := .chain }, { on := 0, ground := .phase }, { on := 1, ground := .phase }, { on := 2, ground := .phase }, { on := 3, ground := .phase }, { on := 4, ground := .phase }, { on := 5, ground := .phase }, { on := 6, ground := .phase }, { on := 7, ground := .phase }], guard := none }) rfl (fun K_ hK_ => ?_) AllReadyH.nil)
       have hw_ : (#[.int .i64 0, .int .i64 16, .bool true, .slice none 0 0, .slice (some ⟨KB, 0, none⟩) 2 2] : Array Value).all (·.oneCell') = true := by simp [Value.oneCell']
       obtain ⟨w10, hw10⟩ := exq (y3.setRow PB #[.int .i64 0, .int .i64 16, .bool true, .slice none 0 0, .slice (some ⟨KB, 0, none⟩) 2 2])
       have HP10 : Hid (Blk w9 w10 PB #[.int .i64 0, .int .i64 16, .bool true, .slice none 0 0, .slice (some ⟨KB, 0, none⟩) 2 2] 25) := by show Blk _ _ _ _ _; rw [← hw10]; exact HP3.set _
       have HK10 : Hid (Blk w9 w10 KB #[.int .i64 uc, .int .i64 ut, .bool um, .slice p1 ul q1, .slice p2 uk q2, .int .i64 0, .int .i64 (T : Int), .bool false, .slice (some ⟨BB, 0, none⟩) NT cp, .slice none 0 0] 25) := by show Blk _ _ _ _ _; rw [← hw10]; exact HK3.other HP3.ge (u_ HKP) _
       rw [if_pos (by rfl)]
       refine wp_store_row 25 _ _ rfl PB #[.int .i64 0, .int .i64 16, .bool true, .slice none 0 0, .slice (some ⟨KB, 0, none⟩) 2 2] rfl rfl 25 _ HP3.res value5 rfl hw_ ?_
       rw [hw10]
       clear hw10 hw_
       refine hK_.out _ _ (u_ HSy w10 HP10.b) (fun hHeld => ?_)
       clear hK_ K_
       refine wpAnyH_done (by kernel_rfl) ?_ _
       clear hHeld HB0 HB1 HB2 HB3 HP3 HK3
       rotate_left
       obtain ⟨y2, PB, hc2, hTBe, hTn⟩ := blkN (u_ HB1) #[.int .i64 0, .int .i64 0, .bool false, .slice none 0 0, .slice none 0 0] 25
       have hb := allocB hc2
       have HB2 := h_ (HB1.trans (hb.mono HB1.size))
       have HK2 := h_ (HK1.call hb)
       have HP2 := h_ hTn
       have HKP : Hid (KB ≠ PB) := by have h1 := HK1.lt; show _ ≠ _; omega
       go_simp
       clear hb hTn hc2 hTBe
       refine hK_.out _ _ (u_ HSy y2 (u_ HB2)) (fun hHeld => ?_)
       clear hK_ K_
       refine wpAnyH_ready (rs := [6]) (by kernel_rfl) (by simp) ?_
       refine (AllReadyH.cons (o := { dst := some 70, op := .call { callee := .value (.func 61), args := #[.const (.int .i64 16), .tmp 69], argTypes := #[3, 23] }, type := 25, pos := "dn.go:54", after := #[{ on := 5, ground := .data }], guard := none }) rfl (fun K_ hK_ => ?_) AllReadyH.nil)
       go_simp
       go_at_call 61
       refine (made_c y2 16 (some ⟨KB, 0, none⟩) 2 2).mono ?_
       rintro e y3 ⟨rfl, hb⟩
       have HB3 := h_ (HB2.trans (hb.mono HB2.size))
       have HP3 := h_ (HP2.call hb)
       have HK3 := h_ (HK2.call hb)
       clear hb
       go_simp
       refine hK_.out _ _ (u_ HSy y3 (u_ HB3)) (fun hHeld => ?_)
       clear hK_ K_
       refine wpAnyH_ready (rs := [8]) (by kernel_rfl) (by simp) ?_
       refine (AllReadyH.cons (o := { dst := none, op := .store 25 (.tmp 13) (.tmp 70), type := 0, pos := "dn.go:54", after := #[{ on := 7, ground := .data }, { on := 6, ground := .data }, { on := 6, ground := .chain }, { on := 0, ground := .phase }, { on := 1, ground := .phase }, { on := 2, ground := .phase }, { on := 3, ground := .phase }, { on := 4, ground := .phase }, { on := 5, ground := .phase }, { on := 6, ground := .phase }, { on := 7, ground := .phase }], guard := none }) rfl (fun K_ hK_ => ?_) AllReadyH.nil)
       have hw_ : (#[.int .i64 0, .int .i64 16, .bool true, .slice none 0 0, .slice (some ⟨KB, 0, none⟩) 2 2] : Array Value).all (·.oneCell') = true := by simp [Value.oneCell']
       obtain ⟨w10, hw10⟩ := exq (y3.setRow PB #[.int .i64 0, .int .i64 16, .bool true, .slice none 0 0, .slice (some ⟨KB, 0, none⟩) 2 2])
       have HP10 : Hid (Blk w9 w10 PB #[.int .i64 0, .int .i64 16, .bool true, .slice none 0 0, .slice (some ⟨KB, 0, none⟩) 2 2] 25) := by show Blk _ _ _ _ _; rw [← hw10]; exact HP3.set _
       have HK10 : Hid (Blk w9 w10 KB #[.int .i64 uc, .int .i64 ut, .bool um, .slice p1 ul q1, .slice p2 uk q2, .int .i64 0, .int .i64 (T : Int), .bool false, .slice (some ⟨BB, 0, none⟩) NT cp, .slice none 0 0] 25) := by show Blk _ _ _ _ _; rw [← hw10]; exact HK3.other HP3.ge (u_ HKP) _
       rw [if_pos (by rfl)]
       refine wp_store_row 25 _ _ rfl PB #[.int .i64 0, .int .i64 16, .bool true, .slice none 0 0, .slice (some ⟨KB, 0, none⟩) 2 2] rfl rfl 25 _ HP3.res value5 rfl hw_ ?_
       rw [hw10]
       clear hw10 hw_
       refine hK_.out _ _ (u_ HSy w10 HP10.b) (fun hHeld => ?_)
       clear hK_ K_
       refine wpAnyH_done (by kernel_rfl) ?_ _
       clear hHeld HB0 HB1 HB2 HB3 HP3 HK3
       rotate_left
       obtain ⟨y1, PB, hc2, hTBe, hTn⟩ := blkN (u_ HB0) #[.int .i64 0, .int .i64 0, .bool false, .slice none 0 0, .slice none 0 0] 25
       have hb := allocB hc2
       have HB1 := h_ (HB0.trans (hb.mono HB0.size))
       have HP1 := h_ hTn
       go_simp
       clear hb hTn hc2 hTBe
       refine hK_.out _ _ (u_ HSy y1 (u_ HB1)) (fun hHeld => ?_)
       clear hK_ K_
       refine wpAnyH_ready (rs := [5]) (by kernel_rfl) (by simp) ?_
       refine (AllReadyH.cons (o := { dst := some 69, op := .buildSlice 23 2 #[(0, .tmp 67), (1, .tmp 68)], type := 23, pos := "dn.go:54", after := #[{ on := 3, ground := .data }, { on := 4, ground := .data }], guard := none }) rfl (fun K_ hK_ => ?_) AllReadyH.nil)
       obtain ⟨y2, KB, hc2, hTBe, hTn⟩ := blkN (u_ HB1) #[.int .i64 uc, .int .i64 ut, .bool um, .slice p1 ul q1, .slice p2 uk q2, .int .i64 0, .int .i64 (T : Int), .bool false, .slice (some ⟨BB, 0, none⟩) NT cp, .slice none 0 0] 25
       have hb := allocB hc2
       have HB2 := h_ (HB1.trans (hb.mono HB1.size))
       have HP2 := h_ (HP1.call hb)
       have HK2 := h_ hTn
       have HKP : Hid (KB ≠ PB) := by have h1 := HP1.lt; show _ ≠ _; omega
       go_simp
       clear hb hTn hc2 hTBe
       refine hK_.out _ _ (u_ HSy y2 (u_ HB2)) (fun hHeld => ?_)
       clear hK_ K_
       refine wpAnyH_ready (rs := [6]) (by kernel_rfl) (by simp) ?_
       refine (AllReadyH.cons (o := { dst := some 70, op := .call { callee := .value (.func 61), args := #[.const (.int .i64 16), .tmp 69], argTypes := #[3, 23] }, type := 25, pos := "dn.go:54", after := #[{ on := 5, ground := .data }], guard := none }) rfl (fun K_ hK_ => ?_) AllReadyH.nil)
       go_simp
       go_at_call 61
       refine (made_c y2 16 (some ⟨KB, 0, none⟩) 2 2).mono ?_
       rintro e y3 ⟨rfl, hb⟩
       have HB3 := h_ (HB2.trans (hb.mono HB2.size))
       have HP3 := h_ (HP2.call hb)
       have HK3 := h_ (HK2.call hb)
       clear hb
       go_simp
       refine hK_.out _ _ (u_ HSy y3 (u_ HB3)) (fun hHeld => ?_)
       clear hK_ K_
       refine wpAnyH_ready (rs := [8]) (by kernel_rfl) (by simp) ?_
       refine (AllReadyH.cons (o := { dst := none, op := .store 25 (.tmp 13) (.tmp 70), type := 0, pos := "dn.go:54", after := #[{ on := 7, ground := .data }, { on := 6, ground := .data }, { on := 6, ground := .chain }, { on := 0, ground := .phase }, { on := 1, ground := .phase }, { on := 2, ground := .phase }, { on := 3, ground := .phase }, { on := 4, ground := .phase }, { on := 5, ground := .phase }, { on := 6, ground := .phase }, { on := 7, ground := .phase }], guard := none }) rfl (fun K_ hK_ => ?_) AllReadyH.nil)
       have hw_ : (#[.int .i64 0, .int .i64 16, .bool true, .slice none 0 0, .slice (some ⟨KB, 0, none⟩) 2 2] : Array Value).all (·.oneCell') = true := by simp [Value.oneCell']
       obtain ⟨w10, hw10⟩ := exq (y3.setRow PB #[.int .i64 0, .int .i64 16, .bool true, .slice none 0 0, .slice (some ⟨KB, 0, none⟩) 2 2])
       have HP10 : Hid (Blk w9 w10 PB #[.int .i64 0, .int .i64 16, .bool true, .slice none 0 0, .slice (some ⟨KB, 0, none⟩) 2 2] 25) := by show Blk _ _ _ _ _; rw [← hw10]; exact HP3.set _
       have HK10 : Hid (Blk w9 w10 KB #[.int .i64 uc, .int .i64 ut, .bool um, .slice p1 ul q1, .slice p2 uk q2, .int .i64 0, .int .i64 (T : Int), .bool false, .slice (some ⟨BB, 0, none⟩) NT cp, .slice none 0 0] 25) := by show Blk _ _ _ _ _; rw [← hw10]; exact HK3.other HP3.ge (u_ HKP) _
       rw [if_pos (by rfl)]
       refine wp_store_row 25 _ _ rfl PB #[.int .i64 0, .int .i64 16, .bool true, .slice none 0 0, .slice (some ⟨KB, 0, none⟩) 2 2] rfl rfl 25 _ HP3.res value5 rfl hw_ ?_
       rw [hw10]
       clear hw10 hw_
       refine hK_.out _ _ (u_ HSy w10 HP10.b) (fun hHeld => ?_)
       clear hK_ K_
       refine wpAnyH_done (by kernel_rfl) ?_ _
       clear hHeld HB0 HB1 HB2 HB3 HP3 HK3
       rotate_left
      all_goals
       obtain ⟨b0, b1, b2, b3, b4⟩ := five_at (u_ HP10)
       obtain ⟨w11, LB, hw11, hLB, hLn⟩ := blkN HP10.b #[.int .i64 0, .int .i64 16, .bool true, .slice none 0 0, .slice (some ⟨KB, 0, none⟩) 2 2] 25
       have hb11 := allocB hw11
       have HL11 := h_ hLn
       have HK11 := h_ (HK10.call hb11)
       clear hLn hb11
       go_wp2_with fail
       refine (made_c w11 17 (some ⟨LB, 0, none⟩) 1 1).mono ?_
       rintro e w12 ⟨rfl, hb⟩
       have HL12 := h_ (HL11.call hb)
       have HK12 := h_ (HK11.call hb)
       clear hb hw11 hLB b0 b1 b2 b3 b4 HL11 HK11 HP10 HK10
       obtain ⟨w13, hw13⟩ := exq (w12.setCells B2 (k * 5) [.int .i64 0, .int .i64 17, .bool true, .slice none 0 0, .slice (some ⟨LB, 0, none⟩) 1 1])
       have hfin := attr_done HB2.1 (u_ HDs9) (u_ HDo9) (u_ HR9) HB2.2.1 HB2.2.2 (u_ HL12) (u_ HK12) ⟨nd, u_ HVd⟩ (HY9.1.below HL12.b) (u_ HBw HY9.2) (u_ Htx) (u_ HTt) (u_ HNT) (u_ Hts) (by rw [List.length_map, List.length_take]; have := u_ Hn; omega) hlt
       rw [hw13] at hfin
       have HR13 := h_ hfin.1
       have HDo13 := h_ hfin.2.1
       have HDs13 : Hid (DRow (fun b => B1 < b ∧ b ≠ B2) w13 B2 n ((d.take (k + 1)).map attrDV)) := by
        show DRow _ _ _ _ _
        rw [List.take_add_one, u_ Hda, List.map_append]
        exact hfin.2.2.1
       have Hth := h_ hfin.2.2.2
       have HT2 : Hid (∀ a ∈ d.take (k + 1), textP a.2 = true) := fun b hb => by
        rw [List.take_add_one, u_ Hda, List.mem_append] at hb
        rcases hb with hb | hb
        ·exact u_ HT b hb
        ·simp only [Option.toList_some, List.mem_singleton] at hb
         rw [hb]
         exact u_ HOK
       have H7 : Hid ((#[.int .i64 0, .int .i64 17, .bool true, .slice none 0 0, .slice (some ⟨LB, 0, none⟩) 1 1] : Array Value).all (·.oneCell') = true) := by show _ = true; simp [Value.oneCell']
       clear hfin HL12 HK12 HVd HCd HSy HR9 HDo9 HDs9 HT9 HY9 HKP HT
       go_wp2_with (refine wpList_store_mid rfl 25 _ _ rfl B2 (k * 5) #[.int .i64 0, .int .i64 17, .bool true, .slice none 0 0, .slice (some ⟨LB, 0, none⟩) 1 1] rfl rfl (u_ Hth) value5 (u_ H7) ?_; show wpList _ _ _ _ _ (w12.setCells B2 (k * 5) [.int .i64 0, .int .i64 17, .bool true, .slice none 0 0, .slice (some ⟨LB, 0, none⟩) 1 1]); rw [hw13])
       go_roundw
       case rel =>
        first
         | exact ⟨k + 1, by omega, by go_num, HT2, HR13, HDo13, HDs13⟩
         | ((repeat apply Exists.intro); exact ⟨⟨k + 1, by omega, by go_num, HT2, HR13, HDo13, HDs13⟩, rfl⟩)
       case measure => simp [intOf]; omega
    ·obtain ⟨f1, f1n⟩ := ltVVf k n
     have hall : d.take k = d := List.take_of_length_le (by have := u_ Hn; omega)
     rw [hall] at HT HDs
     have HE : Hid (errOf (dnV d) = 0 ∧ valOf (dnV d) = .mk 0 16 true [] (d.map attrDV)) := by
      rw [dnV_yes (by have := u_ Hn; omega) (u_ HO) (u_ HT)]
      exact ⟨rfl, rfl⟩
     have Hm := h_ (made_c wr 16 (some ⟨B2, 0, none⟩) n n)
     clear hall
     go_wp2_with fail
     refine Hm.mono ?_
     rintro e w5 ⟨rfl, hb⟩
     have HR5 := h_ (HRr.call hb)
     have HDs5 := h_ (HDs.below hb)
     have H6 : Hid ((#[.int .i64 0, .int .i64 16, .bool true, .slice none 0 0, .slice (some ⟨B2, 0, none⟩) n n] : Array Value).all (·.oneCell') = true) := by show _ = true; simp [Value.oneCell']
     clear hb Hm HRr HDs HDo
     go_wp2_with (refine wpList_store_row rfl 25 _ _ rfl R _ rfl rfl 25 _ HR5.res value5 rfl (u_ H6) ?_)
     refine bodyPost_ret (res_row_tmp Tryz.results24 _ _ R 25 #[.int .i64 0, .int .i64 16, .bool true, .slice none 0 0, .slice (some ⟨B2, 0, none⟩) n n] (0, 0) _ rfl (HR5.set #[.int .i64 0, .int .i64 16, .bool true, .slice none 0 0, .slice (some ⟨B2, 0, none⟩) n n]).res Tryz.underlying25 rfl value5 _ rfl) rfl ⟨[.int .i64 0, .int .i64 16, .bool true, .slice none 0 0, .slice (some ⟨B2, 0, none⟩) n n], by rw [HE.1]; rfl, ?_, (HR5.set #[.int .i64 0, .int .i64 16, .bool true, .slice none 0 0, .slice (some ⟨B2, 0, none⟩) n n]).b⟩
     rw [HE.2]
     have h1 : DRow (fun b => R < b) w5 B2 n (d.map attrDV) := HDs5.mono fun b hb _ => by have := HB1.1; omega
     have h2 := made_val (t := 16) h1 (by rw [List.length_map]; exact u_ Hn) (Nat.le_refl _) (by omega) HB2.2.1
     have h3 := h2.kept (grown_setRowN w5 R #[.int .i64 0, .int .i64 16, .bool true, .slice none 0 0, .slice (some ⟨B2, 0, none⟩) n n]) (fun g e hs => by simp only [Option.some.injEq] at e; omega)
     exact h3.mono fun b hb _ => by have := u_ HeR; omega
end N
end Go.Proofs.YtcofnockikninaaGreatDoor
