/-
  The walks of New and Write.
-/
import Derived.Test.YthddgmnppolajaaDoorSpo
namespace Go.Proofs.YthddgmnppolajaaDoor
open Go.RowKit
def lanes0 : List UInt64 := List.replicate 25 0
theorem built168 : Tryd.prog.built 52 [(1, .int .i64 168)] = some (scells lanes0 168 0 false).toArray := by kernel_rfl
theorem built136 : Tryd.prog.built 52 [(1, .int .i64 136)] = some (scells lanes0 136 0 false).toArray := by kernel_rfl
set_option maxRecDepth 100000 in
theorem new128 (w : World) : Calls Tryd.prog 18 #[.int .i64 128] w fun e w' => e = .returned (.pointer (some ⟨w.heap.size, 0, none⟩)) ∧ w' = w.alloc (.cells (scells lanes0 168 0 false).toArray 52) := by
  have Hb := hide built168
  go_enter Tryd.func18, Tryd.ntmps18
  go_wp2_with (refine wpList_build rfl 52 _ rfl (by simp [go_sem, unhide Hb]) ?_)
  go_ret
  exact ⟨rfl, by rw [unhide Hb]; rfl⟩
set_option maxRecDepth 100000 in
theorem new256 (w : World) : Calls Tryd.prog 18 #[.int .i64 256] w fun e w' => e = .returned (.pointer (some ⟨w.heap.size, 0, none⟩)) ∧ w' = w.alloc (.cells (scells lanes0 136 0 false).toArray 52) := by
  have Hb := hide built136
  go_enter Tryd.func18, Tryd.ntmps18
  go_wp2_with (refine wpList_build rfl 52 _ rfl (by simp [go_sem, unhide Hb]) ?_)
  go_ret
  exact ⟨rfl, by rw [unhide Hb]; rfl⟩
theorem new129 (w : World) : Calls Tryd.prog 18 #[.int .i64 129] w fun e w' => e = .returned (.pointer none) ∧ w' = w := by
  go_enter Tryd.func18, Tryd.ntmps18
  go_wp2
  go_ret
  exact ⟨rfl, rfl⟩
theorem write_no (g : Nat) (st : List UInt64) (rate pos : Nat) (w : World) (h : SpAt w g st rate pos true) (x : Value) :
    Calls Tryd.prog 19 #[.pointer (some ⟨g, 0, none⟩), x] w fun e w' => e = .returned (.bool false) ∧ w' = w := by
  have c := h.cRd
  go_enter Tryd.func19, Tryd.ntmps19
  go_wp2
  go_ret
  exact ⟨rfl, rfl⟩
theorem soak_take (rate : Nat) (p : SP) (l : List UInt8) (k : Nat) (h : k < l.length) : soak rate p (l.take (k + 1)) = sp1 rate (soak rate p (l.take k)) (l.getD k 0) := by
  rw [List.take_succ_eq_append_getElem h, soak_append, List.getD_eq_getElem?_getD, List.getElem?_eq_getElem h]
  rfl
set_option maxRecDepth 100000 in
set_option maxHeartbeats 1000000 in
theorem write_any (g : Nat) (hg0 : 0 < g) (rate : Nat) (hr : rate ≤ 200) (p : SP) (hp : p.pos < rate) (w : World) (h : SpAt w g p.st rate p.pos false) (hT : NumAt w) (x : Value) (l : List UInt8) (hx : BytesAt w x l) (hne : l ≠ [] → x.ownBlock ≠ some g) (hl : l.length ≤ 4611686018427387904) :
    Calls Tryd.prog 19 #[.pointer (some ⟨g, 0, none⟩), x] w fun e w' => e = .returned (.bool true) ∧ SpAt w' g (soak rate p l).st rate (soak rate p l).pos false ∧ w.grownBy w' (some g) := by
  have c := h.cRd
  obtain ⟨sp, cap, rfl, hc1, hc2, hc3⟩ := hx
  have H := hide h
  have HT := hide hT
  have Hc := hide hc3
  have Hne := hide hne
  clear h hT hc3 hne hc2
  go_enter Tryd.func19, Tryd.ntmps19
  go_wp2
  go_loopw [13] (fun i wr => ∃ k : Nat, k ≤ l.length ∧ i = .int .i64 (k : Int) ∧ SpAt wr g (soak rate p (l.take k)).st rate (soak rate p (l.take k)).pos false ∧ w.grownBy wr (some g)) (fun i _ => l.length - (intOf i).toNat)
  case atStart => exact ⟨0, by omega, rfl, by rw [List.take_zero]; exact unhide H, World.grownBy.refl _ _⟩
  case round =>
    obtain ⟨k, hk, rfl, hS, hG⟩ := hrel
    by_cases hlt : k < l.length
    · have hstep := soak_take rate p l k hlt
      have hpos := soak_pos rate p (l.take k) hp
      generalize soak rate p (l.take k) = s at hS hstep hpos
      obtain ⟨b, o, rfl, hr2⟩ := unhide Hc (by intro e; rw [e] at hlt; simp at hlt)
      have hbg : b ≠ g := by
        have := unhide Hne (by intro e; rw [e] at hlt; simp at hlt)
        simpa [Value.ownBlock] using this
      have ck : wr.cell? ⟨b, o + k, none⟩ = some (.int .u8 (ib (l.getD k 0))) := hG.cell (hr2 k _ (by simp [bv, List.getD_eq_getElem?_getD, hlt])) (by simpa using hbg)
      generalize l.getD k 0 = y at ck hstep
      have c26 := hS.cPos
      have HS := hide hS
      have HG := hide hG
      have Hstep := hide hstep
      have k0 : (0 : Int) ≤ (k : Int) := by omega
      have k1 : (k : Int) < (l.length : Int) := by omega
      have k2 : (l.length : Int) ≤ 4611686018427387904 := by omega
      clear hS hG hstep hr2
      go_wp2_with fail
      refine (mix_any g s.st rate s.pos false s.pos (by omega) y wr (unhide HS)).mono ?_
      rintro e w1 ⟨rfl, h1, hG1⟩
      have d26 := h1.cPos
      have d25 := h1.cRate
      have f26 := h1.frozen 26
      have hn : ((s.pos : Int) + 1) = ((s.pos + 1 : Nat) : Int) := by omega
      have h2 := h1.set_pos (s.pos + 1)
      rw [← hn] at h2
      have e25 := h2.cRate
      have e26 := h2.cPos
      rw [← hn] at e26
      have HS2 := hide h2
      have HG2 := hide (grown_setCell ((unhide HG).trans hG1) ⟨g, 26, none⟩ (.int .i64 ((s.pos : Int) + 1)) rfl)
      have p0 : (0 : Int) ≤ (s.pos : Int) := by omega
      have p1 : (s.pos : Int) < 200 := by omega
      clear h1 hG1 h2 hn HS HG c26
      by_cases he : s.pos + 1 = rate
      · have hq : (((s.pos : Int) + 1) == (rate : Int)) = true := by simp; omega
        have Hst : Hid (soak rate p (l.take (k + 1)) = ⟨permOf (mixB s.st s.pos y), 0⟩) := (unhide Hstep).trans (if_pos he)
        have He := hide he
        clear he Hstep
        go_wp2
        go_region_held3 (fun w' => w'.cell? ⟨g, 26, none⟩ = some (.int .i64 ((s.pos : Int) + 1)) ∧ w'.cell? ⟨g, 25, none⟩ = some (.int .i64 (rate : Int))) (go_keep) (fail)
        go_wp2_with fail
        have h3 : SpAt ((w1.setCell ⟨g, 26, none⟩ (.int .i64 ((s.pos : Int) + 1))).drew) g (mixB s.st s.pos y) rate (s.pos + 1) false := ⟨(unhide HS2).1, (unhide HS2).2⟩
        refine (permute_any g (mixB s.st s.pos y) rate (s.pos + 1) false _ h3 ((unhide HT).grown (unhide HG2).drew hg0)).mono ?_
        rintro e w3 ⟨rfl, h4, hG4⟩
        have HS4 := hide h4
        have HG4 := hide ((unhide HG2).drew.trans hG4)
        clear h3 h4 hG4
        go_wp2
        go_roundw
        case rel =>
          have hr' : SpAt w3 g (soak rate p (l.take (k + 1))).st rate (soak rate p (l.take (k + 1))).pos false ∧ w.grownBy w3 (some g) := by rw [unhide Hst]; exact ⟨unhide HS4, unhide HG4⟩
          first
            | exact ⟨k + 1, by omega, by go_num, hr'⟩
            | ((repeat apply Exists.intro); exact ⟨⟨k + 1, by omega, by go_num, hr'⟩, rfl⟩)
        case measure => simp [intOf]; omega
      · have hq : (((s.pos : Int) + 1) == (rate : Int)) = false := by simp; omega
        have Hst : Hid (soak rate p (l.take (k + 1)) = ⟨mixB s.st s.pos y, s.pos + 1⟩) := (unhide Hstep).trans (if_neg he)
        clear he Hstep
        go_wp2
        go_region_held3 (fun w' => w'.cell? ⟨g, 26, none⟩ = some (.int .i64 ((s.pos : Int) + 1)) ∧ w'.cell? ⟨g, 25, none⟩ = some (.int .i64 (rate : Int))) (go_keep) (fail)
        go_wp2
        go_roundw
        case rel =>
          have hr' : SpAt ((w1.setCell ⟨g, 26, none⟩ (.int .i64 ((s.pos : Int) + 1))).drew) g (soak rate p (l.take (k + 1))).st rate (soak rate p (l.take (k + 1))).pos false ∧ w.grownBy ((w1.setCell ⟨g, 26, none⟩ (.int .i64 ((s.pos : Int) + 1))).drew) (some g) := by
            rw [unhide Hst]; exact ⟨⟨(unhide HS2).1, (unhide HS2).2⟩, (unhide HG2).drew⟩
          first
            | exact ⟨k + 1, by omega, by go_num, hr'⟩
            | ((repeat apply Exists.intro); exact ⟨⟨k + 1, by omega, by go_num, hr'⟩, rfl⟩)
        case measure => simp [intOf]; omega
    · obtain rfl : k = l.length := by omega
      rw [List.take_length] at hS
      have HS := hide hS
      have HG := hide hG
      clear hS hG
      go_wp2
      go_ret
      exact ⟨rfl, unhide HS, unhide HG⟩
end Go.Proofs.YthddgmnppolajaaDoor
