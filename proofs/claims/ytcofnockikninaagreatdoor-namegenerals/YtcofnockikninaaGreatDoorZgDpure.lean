/- Parts of the walk. -/
import Derived.WalkKit
namespace Go.Proofs.YtcofnockikninaaGreatDoor
abbrev Bs := List UInt8
inductive DV where
 | mk (cls tag : Int) (made : Bool) (bytes : Bs) (kids : List DV)
namespace DV
def cls : DV → Int | mk c _ _ _ _ => c
def tag : DV → Int | mk _ t _ _ _ => t
def made : DV → Bool | mk _ _ m _ _ => m
def bytes : DV → Bs | mk _ _ _ b _ => b
def kids : DV → List DV | mk _ _ _ _ k => k
theorem eta (v : DV) : v = mk v.cls v.tag v.made v.bytes v.kids := by cases v; rfl
end DV
inductive Told (α : Type) where
 | no (e : Nat)
 | yes (a : α)
def Told.bind {α β : Type} : Told α → (α → Told β) → Told β
 | .no e, _ => .no e
 | .yes a, f => f a
def lessP : Bs → Bs → Bool
 | [], [] => false
 | [], _ :: _ => true
 | _ :: _, [] => false
 | a :: l, b :: m => if a = b then lessP l m else decide (a < b)
def longP : Nat → Nat → Bs → Told (Nat × Bs)
 | _, _, [] => .no 20
 | i, acc, c :: l => if (i = 0 ∧ c = 128) ∨ i = 3 then .no 21 else if c.toNat < 128 then .yes (128 * acc + c.toNat % 128, l) else longP (i + 1) (128 * acc + c.toNat % 128) l
def tagP : Bs → Told (Nat × Nat × Bool × Bs)
 | [] => .no 20
 | c :: l => if c.toNat % 32 < 31 then .yes (c.toNat / 64, c.toNat % 32, decide (c.toNat / 32 % 2 = 1), l) else
   match longP 0 0 l with
   | .no e => .no e
   | .yes (t, r) => if t < 31 then .no 21 else .yes (c.toNat / 64, t, decide (c.toNat / 32 % 2 = 1), r)
def numB (b : Bs) : Nat := b.foldl (fun a c => 256 * a + c.toNat) 0
def lenP : Bs → Told (Nat × Bs)
 | [] => .no 20
 | c :: l => if c.toNat < 128 then .yes (c.toNat, l) else if c.toNat = 128 ∨ 132 < c.toNat then .no 22 else
   if l.length < c.toNat - 128 then .no 20 else
   if numB (l.take (c.toNat - 128)) < 128 ∨ numB (l.take (c.toNat - 128)) < 256 ^ (c.toNat - 129) then .no 22 else .yes (numB (l.take (c.toNat - 128)), l.drop (c.toNat - 128))
def kidsP (g : Bs → Told (DV × Bs)) : Nat → Bs → Told (List (DV × Bs))
 | _, [] => .yes []
 | 0, _ :: _ => .no 0
 | k + 1, l => match g l with
  | .no e => .no e
  | .yes (v, r) => match kidsP g k r with
   | .no e => .no e
   | .yes ks => .yes ((v, l.take (l.length - r.length)) :: ks)
def fallsP : List Bs → Bool
 | [] => false
 | [_] => false
 | a :: b :: l => lessP b a || fallsP (b :: l)
abbrev Form := Nat → Nat → Bool → Bs → Nat
def valueP (form : Form) : Nat → Bs → Told (DV × Bs)
 | 0, _ => .no 23
 | f + 1, l => match tagP l with
  | .no e => .no e
  | .yes (c, t, m, l1) => match lenP l1 with
   | .no e => .no e
   | .yes (n, l2) =>
    if l2.length < n then .no 20 else
    if form c t m (if m then [] else l2.take n) ≠ 0 then .no (form c t m (if m then [] else l2.take n)) else
    if m = false then .yes (.mk c t false (l2.take n) [], l2.drop n) else
    match kidsP (valueP form f) n (l2.take n) with
    | .no e => .no e
    | .yes ks => if (fallsP (ks.map (·.2)) && decide (c = 0) && decide (t = 17)) = true then .no 25 else .yes (.mk c t true [] (ks.map (·.1)), l2.drop n)
def tagB (c t : Nat) (m : Bool) : Bs :=
 if t < 31 then [UInt8.ofNat (64 * c + (if m then 32 else 0) + t)]
 else UInt8.ofNat (64 * c + (if m then 32 else 0) + 31) ::
  ((if 16384 ≤ t then [UInt8.ofNat (128 + t / 16384)] else []) ++ (if 128 ≤ t then [UInt8.ofNat (128 + t / 128 % 128)] else []) ++ [UInt8.ofNat (t % 128)])
def lowB : Nat → Nat → Bs
 | 0, _ => []
 | k + 1, n => if n = 0 then [] else UInt8.ofNat n :: lowB k (n / 256)
def lenB (n : Nat) : Bs := if n < 128 then [UInt8.ofNat n] else UInt8.ofNat (128 + (lowB n n).length) :: (lowB n n).reverse
def allP (g : DV → Told Bs) : List DV → Told (List Bs)
 | [] => .yes []
 | v :: l => match g v with
  | .no e => .no e
  | .yes b => match allP g l with
   | .no e => .no e
   | .yes bs => .yes (b :: bs)
def writeP (form : Form) : Nat → DV → Told Bs
 | 0, _ => .no 23
 | f + 1, .mk c t m b ks =>
  if c < 0 ∨ 3 < c ∨ t < 0 ∨ 2097152 ≤ t then .no 21 else
  if form c.toNat t.toNat m b = 21 then .no 21 else
  if form c.toNat t.toNat m b ≠ 0 ∨ (m = true ∧ 0 < b.length) ∨ (m = false ∧ 0 < ks.length) then .no 24 else
  match allP (writeP form f) ks with
  | .no e => .no e
  | .yes bs => if (fallsP bs && decide (c = 0) && decide (t = 17)) = true then .no 25 else .yes (tagB c.toNat t.toNat m ++ lenB (b ++ bs.flatten).length ++ (b ++ bs.flatten))
def writeTop (form : Form) (v : DV) : Told Bs :=
 match writeP form 17 v with
 | .no e => .no e
 | .yes b => if 65536 < b.length then .no 54 else .yes b
theorem ex5 (v : DV) : ∃ a b c d e, v.cls = a ∧ v.tag = b ∧ v.made = c ∧ v.bytes.length = d ∧ v.kids.length = e := ⟨_, _, _, _, _, rfl, rfl, rfl, rfl, rfl⟩
end Go.Proofs.YtcofnockikninaaGreatDoor
