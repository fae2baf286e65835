/-
  The hash of the reference is SHA-256.
-/
import Derived.Test.YtlhjifdahagkaaaDoorM27
import Derived.Test.YtlhjifdahagkaaaDoorM07
import Derived.Test.YtlhjifdahagkaaaDoorM23
import Derived.Test.YtlhjifdahagkaaaDoorM19
import Derived.Test.YtlhjifdahagkaaaDoorM20
namespace Go.Proofs.YtlhjifdahagkaaaDoor
open Go.RowKit
theorem bv_sha : (bv : UInt8 → Value) = Sha.bv := rfl
theorem sha_bytes {w : World} {x : Value} {l : Bs} (h : BytesAt w x l) : Sha.BytesAt w x l := by
  obtain ⟨sp, c, rfl, h1, h2, h3⟩ := h
  rw [List.length_map] at h1 ⊢
  exact ⟨sp, c, rfl, h1, h2, fun hl => h3 (by simpa using hl)⟩
theorem own_of_sha {w : World} {B : Nat} {v : Value} {l : Bs} (h : Sha.OwnB w B v l) : OwnB w B v l := by
  unfold OwnB OwnV
  rw [List.length_map]
  exact h
theorem len_sha (l : Bs) : (Sha.shaOf l).length = 32 := Sha.length_shaOf l
theorem ref_hash : RefHash Sha.shaOf := by
  refine ⟨len_sha, fun w x l hx hl => ?_⟩
  have h2 := sha_bytes hx
  obtain ⟨sp, c, rfl, _⟩ := bytes_open hx
  refine (Sha.refSum_any w sp c l h2 hl).mono ?_
  rintro e w' ⟨v, rfl, ho, hb⟩
  exact ⟨v, rfl, own_of_sha ho, hb⟩
end Go.Proofs.YtlhjifdahagkaaaDoor
/-
  The walk of the landed spot.hash: the hash of a place, of what is hashed there, and of the parts.
-/
namespace Go.Proofs.YtlhjifdahagkaaaDoor
open Go.RowKit
theorem b_sha {w : World} {x : Value} {l : Bs} (h : BytesAt w x l) : Sha.BytesAt w x l := by
  obtain ⟨sp, c, rfl, h1, h2, h3⟩ := h
  rw [List.length_map] at h1 ⊢
  exact ⟨sp, c, rfl, h1, h2, fun hl => h3 (by simpa using hl)⟩
theorem own_sha {w : World} {B : Nat} {v : Value} {l : Bs} (h : Sha.OwnB w B v l) : OwnB w B v l := by
  unfold OwnB OwnV
  rw [List.length_map]
  exact h
/-- A place. -/
def spotV (xi : Value) (q : Nat) : Value := .agg #[xi, .int .i64 (q : Int)]
/-- What the hash was told. -/
structure Tell (wA w : World) (l : Bs) : Prop where
  h : Sha.HashAt w wA.heap.size (Sha.feed Sha.hs0 l)
  r : Sha.Ready w
  b : Below wA.heap.size wA w
  g : 2 < wA.heap.size
theorem Tell.lt {wA w : World} {l : Bs} (t : Tell wA w l) : wA.heap.size < w.heap.size := (Array.getElem?_eq_some_iff.1 t.h).1
theorem Tell.on {wA w w' : World} {l : Bs} (t : Tell wA w l) (hb : Below w.heap.size w w') : Tell wA w' l := ⟨t.h.below hb, t.r.below hb, t.b.trans (hb.mono t.b.size), t.g⟩
theorem Tell.write {wA w : World} {l : Bs} (t : Tell wA w l) (x : Value) (m : Bs) (hx : BytesAt w x m) (hne : m ≠ [] → x.ownBlock ≠ some wA.heap.size) (hl : l.length + m.length ≤ 4611686018427387904) :
    Calls Tryd.prog 70 #[.pointer (some ⟨wA.heap.size, 0, none⟩), x] w fun e w' => e = .returned (.tuple #[]) ∧ Tell wA w' (l ++ m) := by
  have h0 : (Sha.feed Sha.hs0 l).told = l.length := by rw [Sha.feed_told]; exact Nat.zero_add _
  refine (Sha.write_val wA.heap.size t.g (Sha.feed Sha.hs0 l) (Sha.feed_ok _ _ Sha.hs0_ok) w t.h t.r.2 x m (b_sha hx) hne (by rw [h0]; exact hl)).mono ?_
  rintro e w' ⟨rfl, hH, hG⟩
  refine ⟨rfl, by rw [Sha.feed_append]; exact hH, t.r.grown hG t.g, t.b.grown hG t.b.size (fun k hk => by cases hk; exact Nat.le_refl _), t.g⟩
theorem old_apart {wA : World} {x : Value} {l : Bs} (h : BytesAt wA x l) : l ≠ [] → x.ownBlock ≠ some wA.heap.size := fun hl e => by
  have := ValsAt.old h (by simpa using hl) _ e
  omega
theorem new_apart {wA w w' : World} {x : Value} {l : Bs} (h : Row w w' x l) (hw : wA.heap.size < w.heap.size) : l ≠ [] → x.ownBlock ≠ some wA.heap.size := fun _ e => by
  have := h.own.fresh _ e
  omega
set_option maxRecDepth 100000 in
set_option maxHeartbeats 2000000 in
theorem hash_any (w0 : World) (hr : Sha.Ready w0) (xi xp : Value) (id : Bs) (q what : Nat) (ls : List Bs) (hi : BytesAt w0 xi id) (hp : LL w0 xp ls) (hq : q < 4294967296) (hw : what < 65536) (li : id.length ≤ 1000) (ll : ls.flatten.length ≤ 1000000) (lc : ls.length ≤ 1000) :
    GivesB w0 50 #[spotV xi q, .int .i64 (what : Int), xp] (Sha.shaOf (head id q what ++ ls.flatten)) := by
  have hbA : Below w0.heap.size w0 (w0.alloc (.cells #[xi, .int .i64 (q : Int)] 91)) := (Below.refl _ _).alloc (Nat.le_refl _) _
  have hK := agg_new w0 [xi, .int .i64 (q : Int)] 91
  obtain ⟨wA, hwA⟩ : ∃ wA, w0.alloc (.cells #[xi, .int .i64 (q : Int)] 91) = wA := ⟨_, rfl⟩
  rw [hwA] at hbA
  have hK' : AggAt wA w0.heap.size [xi, .int .i64 (q : Int)] := by rw [← hwA]; exact hK
  obtain ⟨sp, cp, rfl⟩ := hp.form
  have HX := hide (hi.below hbA)
  have HP := hide (hp.below hbA)
  have HR := hide (hr.below hbA)
  have HB := hide hbA
  have HK := hide hK'
  have Hl := hide (And.intro li (And.intro ll hq))
  have lc' : (ls.length : Int) ≤ 1000 := by omega
  have lc0 : (0 : Int) ≤ (ls.length : Int) := by omega
  clear hi hp hr hbA hK hK' li ll
  unfold spotV
  go_enter Tryd.func50, Tryd.ntmps50
  go_wp2_with fail
  refine (Sha.new_any wA (unhide HR).1).mono ?_
  rintro e w1 ⟨rfl, hw1⟩
  have hb1 : Below wA.heap.size wA w1 := by rw [hw1]; exact (Below.refl _ _).alloc (Nat.le_refl _) _
  have HT1 : Hid (Tell wA w1 []) := hide ⟨by rw [hw1]; exact heap_alloc_new wA _, (unhide HR).below hb1, hb1, (unhide HR).lt⟩
  have k0 := ((unhide HK).below hb1).c 0 _ rfl
  clear hw1 hb1 hwA
  go_wp2_with fail
  refine ((unhide HT1).write xi id ((unhide HX).below (unhide HT1).b) (old_apart (unhide HX)) (by have := unhide Hl; simp; omega)).mono ?_
  rintro e w2 ⟨rfl, hT2⟩
  have HT2 := hide hT2
  have k1 := ((unhide HK).below hT2.b).c 1 _ rfl
  clear hT2 HT1 k0
  go_wp2_with fail
  refine (four_any w2 q hq).mono ?_
  rintro e w3 ⟨v3, rfl, hR3⟩
  have HR3 := hide hR3
  have HT3 := hide ((unhide HT2).on hR3.b)
  have hn3 := hide (new_apart hR3 (unhide HT2).lt)
  clear hR3 k1
  go_wp2_with fail
  refine ((unhide HT3).write v3 (big q 4) (unhide HR3).bytes (unhide hn3) (by have := unhide Hl; rw [len_big]; simp; omega)).mono ?_
  rintro e w4 ⟨rfl, hT4⟩
  have HT4 := hide hT4
  clear hT4 HT3 HT2 hn3 HR3
  go_wp2_with fail
  refine (two_any w4 what (by omega)).mono ?_
  rintro e w5 ⟨v5, rfl, hR5⟩
  have HR5 := hide hR5
  have HT5 := hide ((unhide HT4).on hR5.b)
  have hn5 := hide (new_apart hR5 (unhide HT4).lt)
  clear hR5
  go_wp2_with fail
  refine ((unhide HT5).write v5 (big what 2) (unhide HR5).bytes (unhide hn5) (by have := unhide Hl; rw [len_big]; simp [len_big]; omega)).mono ?_
  rintro e w6 ⟨rfl, hT6⟩
  have HT6 : Hid (Tell wA w6 (head id q what ++ (ls.take 0).flatten)) := by
    show Tell _ _ _
    simpa [head] using hT6
  clear hT6 HT5 HT4 hn5 HR5
  go_wp2
  go_loopw [26] (fun ii wr => ∃ i : Nat, i ≤ ls.length ∧ ii = .int .i64 (i : Int) ∧ Hid (Tell wA wr (head id q what ++ (ls.take i).flatten))) (fun ii _ => ls.length - (intOf ii).toNat)
  case atStart => exact ⟨0, by omega, rfl, HT6⟩
  case round =>
    clear HT6
    obtain ⟨i, hi, rfl, HT⟩ := hrel
    have ib : (i : Int) ≤ 1000 := by omega
    have ib0 : (0 : Int) ≤ (i : Int) := by omega
    rename World => wc
    by_cases hlt : i < ls.length
    · obtain ⟨b, o, c, v, e, hb, hc, hv⟩ := (unhide HP).at i hlt
      simp only [Value.slice.injEq] at e
      obtain ⟨rfl, _, rfl⟩ := e
      have hc' : wc.cell? ⟨b, o + i, none⟩ = some v := by rw [(unhide HT).b.cell (p := ⟨b, o + i, none⟩) hb]; exact hc
      have Hv := hide hv
      have il : (i : Int) < (ls.length : Int) := by omega
      clear hc hv hb
      go_wp2_with fail
      refine ((unhide HT).write v (ls.getD i []) ((unhide Hv).below (unhide HT).b) (old_apart (unhide Hv)) (by
        have h1 := unhide Hl
        have h2 := flat_succ ls i hlt
        have h3 := flat_le ls (i + 1)
        rw [h2, List.length_append] at h3
        rw [List.length_append, len_head]
        omega)).mono ?_
      rintro e w7 ⟨rfl, hT7⟩
      have HT7 : Hid (Tell wA w7 (head id q what ++ (ls.take (i + 1)).flatten)) := by
        show Tell _ _ _
        rw [flat_succ ls i hlt, ← List.append_assoc]; exact hT7
      clear hT7 hc' HT
      go_wp2
      go_roundw
      case rel =>
        first
          | exact ⟨i + 1, by omega, by go_num, HT7⟩
          | ((repeat apply Exists.intro); exact ⟨⟨i + 1, by omega, by go_num, HT7⟩, rfl⟩)
      case measure => simp [intOf]; omega
    · obtain rfl : i = ls.length := by omega
      have di : decide ((ls.length : Int) < (ls.length : Int)) = false := by simp
      have hok := Sha.feed_ok Sha.hs0 (head id q what ++ ls.flatten) Sha.hs0_ok
      have HT' : Hid (Tell wA wc (head id q what ++ ls.flatten)) := by
        show Tell _ _ _
        have := unhide HT
        rwa [List.take_length] at this
      clear HT
      go_wp2_with fail
      refine (Sha.hsum_any wA.heap.size _ hok wc (unhide HT').r.lt (unhide HT').h (unhide HT').r.2 (by
        rw [Sha.feed_told]
        have := unhide Hl
        rw [List.length_append, len_head]
        show 0 + _ ≤ _
        omega)).mono ?_
      rintro e w8 ⟨v8, rfl, hO, hb8⟩
      have HF : Hid (Row w0 w8 v8 (Sha.shaOf (head id q what ++ ls.flatten))) := by
        show Row _ _ _ _
        have hR : Row wc w8 v8 (Sha.shaOf (head id q what ++ ls.flatten)) := ⟨own_sha hO, hb8⟩
        exact (hR.up (unhide HT').b).up (unhide HB)
      clear hO hb8
      go_wp2
      go_ret
      exact ⟨_, rfl, unhide HF⟩
end Go.Proofs.YtlhjifdahagkaaaDoor
/-
  The landed Leaves at what is signed; THE RECORD of what the layer promises, kept by the landed code.
-/
namespace Go.Proofs.YtlhjifdahagkaaaDoor
open Go.RowKit
theorem num4_one (H : Bs → Bs) (id seed : Bs) (h w q : Nat) (hq : q < 4294967296) (msg x : Bs) : num4 (oneSig H id seed h w q msg ++ x) = q := by
  unfold oneSig
  simp only [List.append_assoc]
  exact num4_big hq _
theorem leaf_lt (h x : Nat) (h6 : h ≤ 6) : x % 2 ^ h < 2 ^ h ∧ x % 2 ^ h < 4294967296 := by
  have h1 : x % 2 ^ h < 2 ^ h := Nat.mod_lt _ (Nat.pow_pos (by omega))
  exact ⟨h1, Nat.lt_of_lt_of_le h1 (Nat.le_trans (Nat.pow_le_pow_right (show 0 < 2 by omega) h6) (by decide))⟩
theorem sq_from (H : Bs → Bs) (hH : ∀ l, (H l).length = 32) (h w n : Nat) (h1 : 1 ≤ h) (h6 : h ≤ 6) (hw : IsW w) (msg : Bs) (N : Nat) (r : Rd) : ∀ (l k : Nat) (id seed : Bs), id.length = 16 → k + l + 1 = N → rr N r k = ⟨signFrom H h w n msg l id seed, false⟩ → (List.range' k (l + 1)).map (fun j => sq (rr N r j)) = leavesOf h n l
  | 0, k, id, seed, hi, hN, hr => by
    have hq := leaf_lt h n h6
    have hl := len_one H hH id seed h w (n % 2 ^ h) msg
    unfold sizeOf at hl
    have hs : sq (rr N r k) = n % 2 ^ h := by
      rw [hr, signFrom]
      unfold sq
      rw [num_tk (by omega)]
      have := num4_one H id seed h w _ hq.2 msg []
      rw [List.append_nil] at this
      exact this
    show [sq (rr N r k)] = [n % 2 ^ h]
    rw [hs]
  | l + 1, k, id, seed, hi, hN, hr => by
    have hq := leaf_lt h (n / 2 ^ (h * (l + 1))) h6
    have hqe : leafAt h n (l + 1) = n / 2 ^ (h * (l + 1)) % 2 ^ h := rfl
    rw [← hqe] at hq
    rw [List.range'_succ, List.map_cons, leavesOf]
    rw [signFrom] at hr
    obtain ⟨q, hq'⟩ : ∃ q, leafAt h n (l + 1) = q := ⟨_, rfl⟩
    rw [hq'] at hq hr ⊢
    have hi2 : (subId H id seed q).length = 16 := by unfold subId; rw [List.length_take, len_secret H hH]; rfl
    obtain ⟨i2, hie⟩ : ∃ i2, subId H id seed q = i2 := ⟨_, rfl⟩
    obtain ⟨s2, hse⟩ : ∃ s2, subSeed H id seed q = s2 := ⟨_, rfl⟩
    rw [hie] at hi2 hr
    rw [hse] at hr
    have hl1 := len_one H hH id seed h w q (tree H i2 s2 h w)
    have hl2 := len_tree H hH (seed := s2) hi2 h w
    have hop := opens_one H hH (seed := seed) hi h w q h1 h6 hw hq.1 (tree H i2 s2 h w)
    have hnu := num4_one H id seed h w q hq.2 (tree H i2 s2 h w) (tree H i2 s2 h w ++ signFrom H h w n msg l i2 s2)
    obtain ⟨t1, t2, t3⟩ := tree_shape H hH (seed := seed) hi h w h1 h6 hw []
    rw [List.append_nil] at t1 t2 t3
    have ht56 := len_tree H hH (seed := seed) hi h w
    obtain ⟨o, ho⟩ : ∃ o, oneSig H id seed h w q (tree H i2 s2 h w) = o := ⟨_, rfl⟩
    rw [ho] at hl1 hop hnu hr
    obtain ⟨t, ht⟩ : ∃ t, tree H i2 s2 h w = t := ⟨_, rfl⟩
    rw [ht] at hl2 hop hnu hr
    rw [List.append_assoc] at hr
    have hw0 : 0 < w := by rcases hw with rfl | rfl | rfl | rfl <;> omega
    have T := storey_there H (o ++ (t ++ signFrom H h w n msg l i2 s2)) (tree H id seed h w) t ht56 h w t1 t2 (by omega) hw0 (by rw [List.length_append]; omega) (by rw [List.take_left' hl1]; exact hop)
    have hr6 := T.2.2
    rw [drop_mid hl1] at hr6
    have hs : sq (rr N r k) = q := by
      rw [hr]
      unfold sq
      rw [num_tk (by rw [List.length_append, hl1]; unfold sizeOf; omega)]
      exact hnu
    have hnx : rr N r (k + 1) = ⟨signFrom H h w n msg l i2 s2, false⟩ := by
      rw [rr, if_pos (by omega), hr, hr6, tkR_fit (r := ⟨t ++ signFrom H h w n msg l i2 s2, false⟩) (by show 56 ≤ (t ++ signFrom H h w n msg l i2 s2).length; rw [List.length_append]; omega)]
      show Rd.mk ((t ++ signFrom H h w n msg l i2 s2).drop 56) false = _
      rw [drop_mid hl2]
    rw [hs, sq_from H hH h w n h1 h6 hw msg N r l (k + 1) i2 s2 hi2 (by omega) hnx]
theorem cuts_sign (H : Bs → Bs) (hH : ∀ l, (H l).length = 32) (L h w n : Nat) (hL1 : 1 ≤ L) (hL3 : L ≤ 3) (h1 : 1 ≤ h) (h6 : h ≤ 6) (hw : IsW w) {id seed : Bs} (hi : id.length = 16) (msg : Bs) :
    Cuts (signOf H L h w id seed n msg) L ∧ lvs L (tkR ⟨signOf H L h w id seed n msg, false⟩ 4) L = (leavesOf h n (L - 1)).map fun (q : Nat) => Value.int .i64 (q : Int) := by
  have h4 : 4 ≤ (signOf H L h w id seed n msg).length := by unfold signOf; rw [List.length_append, len_big]; omega
  have hq : num4 (signOf H L h w id seed n msg) = L - 1 := by unfold signOf; exact num4_big (by omega) _
  have hr : tkR ⟨signOf H L h w id seed n msg, false⟩ 4 = ⟨signFrom H h w n msg (L - 1) id seed, false⟩ := by
    rw [tkR_fit (r := ⟨signOf H L h w id seed n msg, false⟩) h4]
    show Rd.mk ((signOf H L h w id seed n msg).drop 4) false = _
    unfold signOf
    rw [drop_mid (len_big _ _)]
  have F := from_there H msg L ⟨signFrom H h w n msg (L - 1) id seed, false⟩ (L - 1) 0 (tree H id seed h w) (by omega) (len_tree H hH hi h w) rfl (opens_from H hH h w n h1 h6 hw msg (L - 1) hi)
  have S := sq_from H hH h w n h1 h6 hw msg L ⟨signFrom H h w n msg (L - 1) id seed, false⟩ (L - 1) 0 id seed hi (by omega) rfl
  rw [show L - 1 + 1 = L by omega] at S
  refine ⟨⟨by rw [num_tk h4, hq]; omega, hL3, ?_, ?_⟩, ?_⟩
  · rw [hr]; exact fun k hk => F.1 k (Nat.zero_le _) hk
  · rw [hr]; exact F.2.1
  · rw [hr, ← S, List.map_map, lvs, List.range_eq_range']
    rfl
theorem len_signFrom_le (H : Bs → Bs) (hH : ∀ l, (H l).length = 32) (h w n : Nat) (h6 : h ≤ 6) (hw : IsW w) (msg : Bs) : ∀ l {id seed : Bs}, id.length = 16 → (signFrom H h w n msg l id seed).length ≤ 9000 * (l + 1)
  | 0, id, seed, _ => by
    rw [signFrom, len_one H hH]
    unfold sizeOf
    rcases hw with rfl | rfl | rfl | rfl <;> simp [pW] <;> omega
  | l + 1, id, seed, hi => by
    have hi2 : (subId H id seed (leafAt h n (l + 1))).length = 16 := by unfold subId; rw [List.length_take, len_secret H hH]; rfl
    have ih := len_signFrom_le H hH h w n h6 hw msg l (seed := subSeed H id seed (leafAt h n (l + 1))) hi2
    have hs : sizeOf h w ≤ 8800 := by
      unfold sizeOf
      rcases hw with rfl | rfl | rfl | rfl <;> simp [pW] <;> omega
    rw [signFrom, List.length_append, List.length_append, len_one H hH, len_tree H hH hi2]
    omega
theorem WidAt.below {a b : World} (h : WidAt a) (hb : Below a.heap.size a b) : WidAt b := by
  obtain ⟨tk, fr, hT⟩ := h
  exact ⟨tk, fr, (hb.block _ (Array.getElem?_eq_some_iff.1 hT).1).trans hT⟩
theorem hash_c : CHash (fun w => Sha.Ready w ∧ WidAt w) Sha.shaOf where
  below := fun _ _ h hb => ⟨h.1.below hb, h.2.below hb⟩
  wid := fun _ h => h.2
  len := len_sha
  hash := fun w xi xp id q what ls h hi hp hq hw li ll lc => hash_any w h.1 xi xp id q what ls hi hp hq hw li ll lc
/-- THE LANDED LAYER KEEPS WHAT IT PROMISES. -/
theorem lms_c : Lms (fun w => Sha.Ready w ∧ WidAt w) Sha.shaOf where
  below := hash_c.below
  hash := ref_hash
  count := fun w L h wd xi xs id seed hR hi hs hr => count_c hash_c w L h wd xi xs id seed hR hi hs hr
  noCount := fun w L h wd xi xs id seed hR hi hs _ _ hr => nocount_c hash_c w L h wd xi xs id seed hR hi hs hr
  public_ := fun w L h wd xi xs id seed hR hi hs hr => public_c hash_c w L h wd xi xs id seed hR hi hs hr
  noPublic := fun w L h wd xi xs id seed hR hi hs _ _ hr => nopublic_c hash_c w L h wd xi xs id seed hR hi hs hr
  sign := fun w L h wd n xi xs xm id seed msg hR hi hs hm lm hr hn => sign_c hash_c w L h wd n xi xs xm id seed msg hR hi hs hm lm hr hn
  noSign := fun w L h wd n xi xs xm id seed msg hR hi hs _ _ _ _ hr => nosign_c hash_c w L h wd n xi xs xm id seed hR hi hs hr
  usedSign := fun w L h wd n xi xs xm id seed msg hR hi hs _ _ hr hn => usedsign_c hash_c w L h wd n xi xs xm id seed hR hi hs hr hn
  verify := fun w xp xm xs pk msg sig hR hp hm hs lp lm ls => verify_c hash_c w xp xm xs pk msg sig hR hp hm hs lp lm ls
  leaves := fun w L h wd n x id seed msg hR hr hx => by
    obtain ⟨hw0, r1, r2, r3, r4, r5, r6⟩ := hr
    have hw : IsW wd := by unfold IsW; omega
    have hi : id.length = 16 := by omega
    obtain ⟨hc, hl⟩ := cuts_sign Sha.shaOf len_sha L h wd n (by omega) (by omega) (by omega) (by omega) hw (seed := seed) hi msg
    have hle := len_signFrom_le Sha.shaOf len_sha h wd n (by omega) hw msg (L - 1) (seed := seed) hi
    have hlen : (signOf Sha.shaOf L h wd id seed n msg).length ≤ 100000 := by
      unfold signOf
      rw [List.length_append, len_big]
      have : L - 1 + 1 ≤ 3 := by omega
      omega
    refine (leaves_yes w x L hc.2.1 _ (cut_yes w hR.2 x _ hx hlen L hc)).mono ?_
    rintro e w' ⟨v, rfl, ho, hB⟩
    rw [hl] at ho
    exact ⟨v, rfl, ho, hB⟩
  anyLeaves := fun w x sig hR hx hl => anyleaves_c w hR.2 x sig hx hl
end Go.Proofs.YtlhjifdahagkaaaDoor
