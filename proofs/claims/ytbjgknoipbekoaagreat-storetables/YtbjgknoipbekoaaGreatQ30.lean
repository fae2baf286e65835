/-
  The tables of the landed store: Get, walked.
  The reference's Right and All, walked.
  The reference's Write, walked.
-/
import Derived.Test.YtbjgknoipbekoaaGreatQ28
import Derived.Test.YtbjgknoipbekoaaGreatQ26
import Derived.Test.YtbjgknoipbekoaaGreatQ27
import Derived.Test.YtbjgknoipbekoaaGreatQ21
import Derived.Test.YtbjgknoipbekoaaGreatQ3
namespace Go.Proofs.YtbjgknoipbekoaaGreat
open Go.RowKit
set_option maxRecDepth 100000 in
set_option maxHeartbeats 2000000 in
theorem tget_c {w : World} {tv t : Value} {pre : ByteArray} {A : Nat} (h : TabAt w tv t pre A) (s : ByteArray) (hs : pre.size + s.size ≤ 1000000) (o : Option Bs)
    (hg : ∀ w2 x, Below w.heap.size w w2 → BytesAt w2 x (pre ++ s).data.toList → Calls Tryz.prog 15 #[t, x] w2 fun e w' => ∃ v, e = .returned (.tuple #[v, .bool o.isSome]) ∧ BytesAt w' v (o.getD []) ∧ Below w2.heap.size w2 w') :
    Calls Tryz.prog 37 #[tv, .string s] w fun e w' => e = .returned (.tuple #[.int .i64 (getB (o.getD []) : Int), .bool (decide ((o.getD []).length = 2))]) ∧ Below w.heap.size w w' := by
  have hbd : Below w.heap.size w w.drew := (Below.refl _ _).drew
  have hd := h.below hbd
  have Hk := hide (tkey_c hd s hs)
  obtain ⟨k0, _, _, _⟩ := hd.cells
  have HT := hide h
  have HG := hide hg
  have HBd := hide hbd
  obtain ⟨rfl, _⟩ := h
  obtain ⟨KN, hKN⟩ : ∃ y, pre.size + s.size = y := ⟨_, rfl⟩
  rw [hKN] at Hk
  clear hd hg hbd hKN hs
  have Hrd : Hid (∀ w2 x, Below w.heap.size w w2 → BytesAt w2 x (o.getD []) → Calls Tryz.prog 61 #[.pointer (some ⟨A, 0, none⟩), x] w2 fun e w' => e = .returned (.tuple #[.int .i64 (getB (o.getD []) : Int), .bool (decide ((o.getD []).length = 2))]) ∧ Below w2.heap.size w2 w') := fun w2 x hb hx => tread_c ((unhide HT).below hb) x _ hx
  go_enter Tryz.func37, Tryz.ntmps37
  go_upto_region 1 with (fail)
  go_region_held3 (fun u => u.cell? ⟨A, 0, none⟩ = some t) (go_keep)
    ((first
      | (go_at_call 60; refine (unhide Hk).mono ?_; rintro e w2 ⟨cp, rfl, hby, hb⟩; have HBy := hide hby; have HB2 := hide ((unhide HBd).trans (hb.mono (unhide HBd).size)); have j0 := ((unhide HT).below (unhide HB2)).cells.1; clear hby hb)
      | (go_at_call 15; refine (unhide HG _ _ (unhide HB2) (unhide HBy)).mono ?_; rintro e w3 ⟨v3, rfl, hv3, hb3⟩; have HV3 := hide hv3; have HB3 := hide ((unhide HB2).trans (hb3.mono (unhide HB2).size)); have i0 := ((unhide HT).below (unhide HB3)).cells.1; clear hv3 hb3)))
  cases o with
  | none =>
    go_wp2_with (fail)
    go_ret2
    exact ⟨rfl, unhide HB3⟩
  | some b =>
    go_wp2_with (go_at_call 61; refine (unhide Hrd _ _ (unhide HB3) (unhide HV3)).mono ?_; rintro e w4 ⟨rfl, hb4⟩; have HB4 := hide ((unhide HB3).trans (hb4.mono (unhide HB3).size)); clear hb4)
    go_ret2
    exact ⟨rfl, unhide HB4⟩
end Go.Proofs.YtbjgknoipbekoaaGreat
namespace Go.Proofs.YtbjgknoipbekoaaGreat
open Go.RowKit
end Go.Proofs.YtbjgknoipbekoaaGreat
namespace Go.Proofs.YtbjgknoipbekoaaGreat
open Go.RowKit
end Go.Proofs.YtbjgknoipbekoaaGreat
