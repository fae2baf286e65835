/-
  bytes.Compare; plain words on the order of right values' bytes.
-/
import Derived.Test.YtngkidlgcdofhabDoorKr
import Derived.Lib.Bytealg
namespace Go.Proofs.YtngkidlgcdofhabDoor
open Go.RowKit
namespace K
abbrev cb := Lib.compareBytes
theorem cb_cons (a b : UInt8) (l m : Bs) : cb (a :: l) (b :: m) = if a < b then -1 else if b < a then 1 else cb l m := rfl
theorem cb_self : ∀ a : Bs, cb a a = 0
  | [] => rfl
  | a :: l => by
    rw [cb_cons, if_neg (UInt8.lt_irrefl a), if_neg (UInt8.lt_irrefl a)]
    exact cb_self l
theorem u8_tri {a b : UInt8} (h1 : ¬ a < b) (h2 : ¬ b < a) : a = b := by
  rw [UInt8.lt_iff_toNat_lt] at h1 h2
  exact UInt8.toNat_inj.1 (by omega)
theorem cb_eq : ∀ a b : Bs, cb a b = 0 → a = b
  | [], [], _ => rfl
  | [], _ :: _, h => by cases h
  | _ :: _, [], h => by cases h
  | a :: l, b :: m, h => by
    rw [cb_cons] at h
    split at h
    · cases h
    split at h
    · cases h
    · rename_i h1 h2
      rw [u8_tri h1 h2, cb_eq l m h]
theorem cb_less : ∀ a b : Bs, decide (cb a b < 0) = lessP a b
  | [], [] => rfl
  | [], _ :: _ => rfl
  | _ :: _, [] => rfl
  | a :: l, b :: m => by
    have e : lessP (a :: l) (b :: m) = if a = b then lessP l m else decide (a < b) := rfl
    rw [cb_cons, e]
    by_cases h1 : a < b
    · have hne : a ≠ b := fun e => by rw [e] at h1; exact UInt8.lt_irrefl _ h1
      rw [if_pos h1, if_neg hne, decide_eq_true h1]
      rfl
    · by_cases h2 : b < a
      · have hne : a ≠ b := fun e => by rw [e] at h2; exact UInt8.lt_irrefl _ h2
        rw [if_neg h1, if_pos h2, if_neg hne, decide_eq_false h1]
        rfl
      · rw [if_neg h1, if_neg h2, if_pos (u8_tri h1 h2), cb_less l m]
theorem cb_pre : ∀ a x y : Bs, cb (a ++ x) (a ++ y) = cb x y
  | [], _, _ => rfl
  | a :: l, x, y => by
    rw [List.cons_append, List.cons_append, cb_cons, if_neg (UInt8.lt_irrefl a), if_neg (UInt8.lt_irrefl a)]
    exact cb_pre l x y
theorem cb_app : ∀ a b x y : Bs, cb a b ≠ 0 → (∀ z, b = a ++ z → z = []) → (∀ z, a = b ++ z → z = []) → cb (a ++ x) (b ++ y) = cb a b
  | [], [], _, _, h, _, _ => absurd rfl h
  | [], c :: m, _, _, _, h, _ => by have := h (c :: m) rfl; cases this
  | c :: l, [], _, _, _, _, h => by have := h (c :: l) rfl; cases this
  | a :: l, b :: m, x, y, h, h1, h2 => by
    rw [List.cons_append, List.cons_append, cb_cons, cb_cons]
    rw [cb_cons] at h
    split
    · rfl
    split
    · rfl
    · rename_i e1 e2
      rw [if_neg e1, if_neg e2] at h
      have e := u8_tri e1 e2
      subst e
      exact cb_app l m x y h (fun z hz => h1 z (by rw [hz]; rfl)) (fun z hz => h2 z (by rw [hz]; rfl))
theorem cb_small (a b : Bs) : -1 ≤ cb a b ∧ cb a b ≤ 1 := by
  induction a generalizing b with
  | nil => cases b <;> simp [cb, Lib.compareBytes]
  | cons c l ih =>
    cases b with
    | nil => simp [cb, Lib.compareBytes]
    | cons d m =>
      rw [cb_cons]
      split
      · omega
      split
      · omega
      · exact ih m
/-- Heads are apart. -/
theorem head_free {c c' t t' N N' : Nat} {m m' : Bool} (hc : c ≤ 3) (hc' : c' ≤ 3) (ht : t < 2097152) (ht' : t' < 2097152) (hN : N < 4294967296) (hN' : N' < 4294967296) {x y : Bs} (h : tagB c t m ++ lenB N ++ x = tagB c' t' m' ++ lenB N' ++ y) : c = c' ∧ t = t' ∧ m = m' ∧ N = N' ∧ x = y := by
  rw [List.append_assoc, List.append_assoc] at h
  have h1 := tag_there m hc ht (lenB N ++ x)
  rw [h, tag_there m' hc' ht'] at h1
  simp only [Told.yes.injEq, Prod.mk.injEq] at h1
  obtain ⟨e1, e2, e3, e4⟩ := h1
  have h2 := len_there hN x
  rw [← e4, len_there hN'] at h2
  simp only [Told.yes.injEq, Prod.mk.injEq] at h2
  exact ⟨e1.symm, e2.symm, e3.symm, h2.1.symm, h2.2.symm⟩
/-- Right values' bytes are apart. -/
theorem bytes_free {f : Nat} {v v' : DV} {W W' Z : Bs} (h : writeP formD f v = .yes W) (h' : writeP formD f v' = .yes W') (hl : W'.length < 4294967296) (e : W' = W ++ Z) : Z = [] := by
  have h1 := (value_there formD f v W Z h (by rw [e, List.length_append] at hl; omega)).2
  have h2 := (value_there formD f v' W' [] h' hl).2
  rw [List.append_nil, e, h1] at h2
  simp only [Told.yes.injEq, Prod.mk.injEq] at h2
  exact h2.2
/-- One list of bytes against another, one by one. -/
def cbL : List Bs → List Bs → Int
  | [], [] => 0
  | [], _ :: _ => -1
  | _ :: _, [] => 1
  | a :: l, b :: m => if cb a b ≠ 0 then cb a b else cbL l m
theorem cbL_flat {f : Nat} : ∀ (ks ls : List DV) (xs ys : List Bs), allP (writeP formD f) ks = .yes xs → allP (writeP formD f) ls = .yes ys → (∀ x ∈ xs, x.length < 4294967296) → (∀ y ∈ ys, y.length < 4294967296) → cbL xs ys = cb xs.flatten ys.flatten
  | [], [], xs, ys, h1, h2, _, _ => by
    unfold allP at h1 h2
    cases h1
    cases h2
    rfl
  | [], l :: ls, xs, ys, h1, h2, _, hy => by
    unfold allP at h1
    cases h1
    rw [all_cons] at h2
    split at h2
    · cases h2
    · rename_i y hyy
      split at h2
      · cases h2
      · rename_i ys' _
        cases h2
        have := (value_there formD f l y [] hyy (hy y (by simp))).1
        cases y with
        | nil => simp at this
        | cons c y => rfl
  | k :: ks, [], xs, ys, h1, h2, hx, _ => by
    unfold allP at h2
    cases h2
    rw [all_cons] at h1
    split at h1
    · cases h1
    · rename_i x hxx
      split at h1
      · cases h1
      · rename_i xs' _
        cases h1
        have := (value_there formD f k x [] hxx (hx x (by simp))).1
        cases x with
        | nil => simp at this
        | cons c x => rfl
  | k :: ks, l :: ls, xs, ys, h1, h2, hx, hy => by
    rw [all_cons] at h1 h2
    split at h1
    · cases h1
    rename_i x hxx
    split at h1
    · cases h1
    rename_i xs' hxs
    cases h1
    split at h2
    · cases h2
    rename_i y hyy
    split at h2
    · cases h2
    rename_i ys' hys
    cases h2
    rw [List.flatten_cons, List.flatten_cons]
    show (if cb x y ≠ 0 then cb x y else cbL xs' ys') = _
    split
    · rename_i hne
      exact (cb_app x y _ _ hne (fun z hz => bytes_free hxx hyy (hy y (by simp)) hz) (fun z hz => bytes_free hyy hxx (hx x (by simp)) hz)).symm
    · rename_i he
      have := cb_eq x y (by omega)
      subst this
      rw [cb_pre]
      exact cbL_flat ks ls xs' ys' hxs hys (fun z hz => hx z (by simp [hz])) (fun z hz => hy z (by simp [hz]))
/-- Does none fall? -/
theorem falls_at : ∀ (xs : List Bs), fallsP xs = true ↔ ∃ (i : Nat) (a b : Bs), xs[i]? = some a ∧ xs[i + 1]? = some b ∧ lessP b a = true
  | [] => by simp [fallsP]
  | [a] => by
    constructor
    · intro h; cases h
    · rintro ⟨i, a', b, _, h2, _⟩
      simp at h2
  | a :: b :: l => by
    rw [fallsP_two, Bool.or_eq_true, falls_at (b :: l)]
    constructor
    · rintro (h | ⟨i, x, y, h1, h2, h3⟩)
      · exact ⟨0, a, b, rfl, rfl, h⟩
      · exact ⟨i + 1, x, y, by simpa using h1, by simpa using h2, h3⟩
    · rintro ⟨i, x, y, h1, h2, h3⟩
      match i with
      | 0 =>
        simp at h1 h2
        subst h1 h2
        exact Or.inl h3
      | i + 1 => exact Or.inr ⟨i, x, y, by simpa using h1, by simpa using h2, h3⟩
theorem load_bytes (w : World) (b : Nat) : ∀ (l : Bs) (o : Nat) (acc : ByteArray), (∀ k, k < l.length → w.cell? ⟨b, o + k, none⟩ = some (.int .u8 ((l.getD k 0).toNat : Int))) → (Extern.Bytes.loadBytes ⟨b, o, none⟩ l.length acc).run Tryd.prog w = .ok ⟨acc.data ++ l.toArray⟩ w
  | [], o, acc, _ => by
    show (Extern.Bytes.loadBytes ⟨b, o, none⟩ 0 acc).run Tryd.prog w = _
    simp [Extern.Bytes.loadBytes]
  | c :: l, o, acc, h => by
    have h0 : w.cell? ⟨b, o, none⟩ = some (.int .u8 (c.toNat : Int)) := by simpa using h 0 (by simp)
    have ih := load_bytes w b l (o + 1) (acc.push c) (fun k hk => by
      have := h (k + 1) (by simpa using hk)
      rw [show o + 1 + k = o + (k + 1) by omega]
      simpa using this)
    show (Extern.Bytes.loadBytes ⟨b, o, none⟩ (l.length + 1) acc).run Tryd.prog w = _
    unfold Extern.Bytes.loadBytes
    simp only [Sem.run_bind, run_load, h0, Result.andThen_ok]
    have e1 : ((c.toNat : Int).toNat.toUInt8) = c := by simp
    have e2 : (⟨b, o, none⟩ : Addr).add 1 = ⟨b, o + 1, none⟩ := by simp [Addr.add_mid]
    rw [e1, e2, ih]
    simp
theorem bytes_of {w : World} {x : Value} {l : Bs} (h : BytesAt w x l) : (Extern.Bytes.bytesOf x).run Tryd.prog w = .ok ⟨l.toArray⟩ w := by
  obtain ⟨sp, c, rfl, _, _, hc⟩ := bytes_open h
  cases l with
  | nil =>
    cases sp with
    | none => rfl
    | some a => rfl
  | cons a l =>
    obtain ⟨b, o, rfl, _, hcell⟩ := hc (by simp)
    have := load_bytes w b (a :: l) o .empty hcell
    show (Extern.Bytes.loadBytes ⟨b, o, none⟩ (a :: l).length .empty).run Tryd.prog w = _
    rw [this]
    show Result.ok (ByteArray.mk (#[] ++ (a :: l).toArray)) w = _
    rw [Array.empty_append]
theorem run_cmp {w : World} {x y : Value} {a b : Bs} (hx : BytesAt w x a) (hy : BytesAt w y b) : (Extern.BytealgCompare.compare #[x, y]).run Tryd.prog w = .ok (.int .i64 (cb a b)) w := by
  change Sem.run Tryd.prog (do pure (goInt (Extern.BytealgCompare.cmp (← Extern.Bytes.bytesOf x) (← Extern.Bytes.bytesOf y)))) w = _
  simp only [Sem.run_bind, Sem.run_pure, bytes_of hx, bytes_of hy, Result.andThen_ok]
  rw [Lib.cmp_eq]
  rfl
set_option maxRecDepth 100000 in
theorem bcmp_c {w : World} {x y : Value} {a b : Bs} (hx : BytesAt w x a) (hy : BytesAt w y b) : Calls Tryd.prog 54 #[x, y] w fun e w' => e = .returned (.int .i64 (cb a b)) ∧ w' = w := by
  have H : Hid (∀ W, W = w → (callFunc 58 #[x, y]).run Tryd.prog W = .ok (.value (.int .i64 (cb a b))) W) := fun W hW => by
    subst hW
    rw [run_callFunc_extern Tryd.func58 (by kernel_rfl) (by kernel_rfl) (by kernel_rfl) (e := Extern.BytealgCompare.compare) (by kernel_rfl), run_cmp hx hy]
    rfl
  obtain ⟨z, hz⟩ : ∃ z, cb a b = z := ⟨_, rfl⟩
  rw [hz] at H ⊢
  have H0 := unhide H w rfl
  clear H hx hy hz
  go_enter Tryd.func54, Tryd.ntmps54
  go_wp2
  go_ret
  exact ⟨rfl, rfl⟩
end K
end Go.Proofs.YtngkidlgcdofhabDoor
