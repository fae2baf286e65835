/-
  What DerSets leans on: texts of bytes, compared as the document compares bytes; rows of values, joined.
-/
import Derived.Test.YtngkidlgcdofhabDoorWide9
import Derived.Laws.BytesString
import Derived.Laws.Cover1
import Derived.Deep.AppendLies
import Derived.Deep.Upon
namespace Go.Proofs.YtngkidlgcdofhabDoor
open Go.RowKit
theorem bytesLess_eq : ∀ a b : Bs, Op.bytesLess a b = lessP a b
  | [], [] => rfl
  | [], _ :: _ => rfl
  | _ :: _, [] => rfl
  | a :: l, b :: m => by
    unfold Op.bytesLess lessP
    rw [bytesLess_eq l m]
    by_cases h : a = b
    · subst h; simp
    · simp [h]
/-- The text of a row of bytes. -/
def strOf (l : Bs) : ByteArray := ⟨l.toArray⟩
theorem push_strOf (l : Bs) (c : UInt8) : (strOf l).push c = strOf (l ++ [c]) := by
  unfold strOf ByteArray.push
  simp
theorem fold_strOf : ∀ (l m : Bs), (m.map fun c : UInt8 => (c.toNat : Int)).foldl (fun r n => r.push (UInt8.ofNat n.toNat)) (strOf l) = strOf (l ++ m)
  | l, [] => by simp
  | l, c :: m => by
    rw [List.map_cons, List.foldl_cons, Int.toNat_natCast, UInt8.ofNat_toNat, push_strOf, fold_strOf (l ++ [c]) m]
    simp
theorem toList_strOf (l : Bs) : (strOf l).toList = l := by
  have h : (strOf l).toList = (strOf l).data.toList := ByteArray.toList_eq _
  rw [h]
  rfl
/-- string(b). -/
theorem str_of {w : World} {x : Value} {l : Bs} (h : BytesAt w x l) : (convert 23 9 x).run Tryd.prog w = .ok (.string (strOf l)) w := by
  obtain ⟨sp, c, rfl, _, _, hc⟩ := bytes_open h
  rw [run_convert_bytes_string w 23 9 5 sp l.length c Tryd.underlying23 Tryd.underlying5 Tryd.underlying9]
  cases sp with
  | none =>
    have : l = [] := by
      cases l with
      | nil => rfl
      | cons a l => obtain ⟨_, _, h1, _⟩ := hc (by simp); cases h1
    subst this
    simp [Conv.bytesToString, strOf, Sem.run_pure]
    rfl
  | some a =>
    have e : (ByteArray.empty : ByteArray) = strOf [] := rfl
    rw [run_bytesToString w a l.length c (l.map fun c : UInt8 => (c.toNat : Int)) ?_, e, fold_strOf, List.nil_append]
    have := run_loadCells_list (P := Tryd.prog) w a ((l.map fun c : UInt8 => (c.toNat : Int)).map (Value.int .u8)) (fun j v hj => by
      have hjl : j < l.length := by have := (List.getElem?_eq_some_iff.1 hj).1; simpa using this
      obtain ⟨b, o, h1, _, h2⟩ := hc (by intro e; rw [e] at hjl; simp at hjl)
      cases h1
      rw [Addr.add_mid, h2 j hjl]
      rw [List.getElem?_map, List.getElem?_map, List.getElem?_eq_getElem hjl] at hj
      simp only [Option.map_some, Option.some.injEq] at hj
      rw [← hj, List.getD_eq_getElem?_getD, List.getElem?_eq_getElem hjl]
      rfl)
    simpa using this
/-- What 'a <= b' tells, of texts of bytes. -/
theorem leq_less (a b : Bs) : (Op.bytesLess (strOf a).toList (strOf b).toList || (strOf a).toList == (strOf b).toList) = (lessP a b || a == b) := by
  rw [toList_strOf, toList_strOf, bytesLess_eq]
section
variable {P : Program}
/-- m VALUES MORE, OUT OF ANOTHER ROW (none, too). -/
theorem run_append_many {t e : TypeId} {z : Value} (E : Elem5 P t e z) (w : World) (base : Nat) (v : Value) (n : Nat) (xs ds : List Value) (hown : OwnD e w base v n xs) (x : Value) (m : Nat) (hx : Src P 5 t x m ds w) (hxa : 0 < m → ∃ ga go c, x = .slice (some ⟨ga, go, none⟩) m c ∧ CellsAt w ga go ds) (hb : base ≤ w.heap.size) (hlen : n + m ≤ 1073741824) (ty : TypeId) :
    ∃ v' w', (Builtin.append_ #[t, t] ty #[v, x]).run P w = .ok v' w' ∧ OwnD e w' base v' (n + m) (xs ++ ds) ∧ w.grownBy w' v.ownBlock ∧ (v'.ownBlock = v.ownBlock ∨ v'.ownBlock = some w.heap.size) ∧ w.heap.size ≤ w'.heap.size := by
  obtain ⟨hu, ⟨i, hi, hz, hsz, hby⟩, hfive⟩ := E
  have hE : OwnD e w base v n xs := hown
  rcases Nat.eq_zero_or_pos m with h0 | hp
  · subst h0
    have hds : ds = [] := List.eq_nil_of_length_eq_zero (by have := hx.newsLen; omega)
    subst hds
    obtain ⟨sp, c, rfl, hnc, _⟩ := hown.form
    exact ⟨_, _, run_append_nothing w t t ty e i hu hi sp n c hnc x (by rw [hsz]; exact hx), by simpa using hE, World.grownBy.refl _ _, Or.inl rfl, Nat.le_refl _⟩
  · obtain ⟨ga, go, c, rfl, hy⟩ := hxa hp
    have hn : ∀ j u, ds[j]? = some u → w.cell? ((⟨ga, go, none⟩ : Addr).add j) = some u := by
      intro j u hu
      rw [Addr.add_mid]; exact hy j u hu
    obtain ⟨g, cap, w', hr, h2, h3, h4, h5⟩ := run_append_lies (P := P) w t ty base e i z 5 72 hu hi hz hsz hby hfive (by omega) v n xs hown ⟨ga, go, none⟩ m c ds hx.newsLen hn hx.one hp (by simp only [maxLen]; omega) (by omega) hb _ rfl
    refine ⟨_, w', hr, h2, h3, ?_, h3.size⟩
    rcases h4 with h4 | h4
    · exact Or.inl h4.symm
    · exact Or.inr (by rw [h4]; rfl)
/-- As a step of a region that draws. -/
theorem step_append_many {t e : TypeId} {z : Value} (E : Elem5 P t e z) {w : World} {ops : Array Oper} {o : Oper} {a : Act} {K : Act → World → Prop} {Q : Exit → Act → World → Prop} {F : Prop} (hgd : o.guard = none) (s x : Operand)
    (ho : o.op = .call { callee := .builtin .append, args := #[s, x], argTypes := #[t, t] }) (base : Nat) (v : Value) (n : Nat) (xs ds : List Value) (hs : a.eval s = v) (hown : OwnD e w base v n xs) (xv : Value) (m : Nat)
    (hx : a.eval x = xv) (hsrc : Src P 5 t xv m ds w) (hxa : 0 < m → ∃ ga go c, xv = .slice (some ⟨ga, go, none⟩) m c ∧ CellsAt w ga go ds) (hb : base ≤ w.heap.size) (hlen : n + m ≤ 1073741824)
    (h : ∀ v' w', OwnD e w' base v' (n + m) (xs ++ ds) → w.grownBy w' v.ownBlock → (v'.ownBlock = v.ownBlock ∨ v'.ownBlock = some w.heap.size) → K (a.put o.dst v') w') : if Region.wanted o (yielded ops a.tmps) = true then Oper.wp P o a w K Q else F := by
  have hw : Region.wanted o (yielded ops a.tmps) = true := by simp [Region.wanted, hgd]
  rw [if_pos hw]
  obtain ⟨v', w', hrun, h2, h3, h4, _⟩ := run_append_many E w base v n xs ds hown xv m hsrc hxa hb hlen o.type
  unfold Oper.wp execOp
  simp only [ho, resolve, invoke, builtin, Sem.run_bind, Sem.run_pure, Result.andThen_ok, List.map_toArray, List.map_cons, List.map_nil, hs, hx, hrun]
  exact h v' w' h2 h3 h4
end
theorem Edv : Elem5 Tryd.prog 24 26 (.agg #[.int .i64 0, .int .i64 0, .bool false, .slice none 0 0, .slice none 0 0]) := by
  refine ⟨Tryd.underlying24, ?_, rfl⟩
  have h : (Tryd.prog.info? 26).map (fun i => (i.zero, i.size, i.bytes)) = some (some (.agg #[.int .i64 0, .int .i64 0, .bool false, .slice none 0 0, .slice none 0 0]), 5, 72) := by kernel_rfl
  obtain ⟨i, hi, h2⟩ := Option.map_eq_some_iff.1 h
  simp only [Prod.mk.injEq] at h2
  exact ⟨i, hi, h2.1, h2.2.1, h2.2.2⟩
end Go.Proofs.YtngkidlgcdofhabDoor
