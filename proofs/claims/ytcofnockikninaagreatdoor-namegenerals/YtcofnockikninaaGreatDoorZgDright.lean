/- Parts of the walk. -/
import Derived.Test.YtcofnockikninaaGreatDoorZgDpure
namespace Go.Proofs.YtcofnockikninaaGreatDoor
def daysP (y m : Nat) : Nat := if m = 2 then (if (y % 4 = 0 ∧ ¬ y % 100 = 0) ∨ y % 400 = 0 then 29 else 28) else if m = 4 ∨ m = 6 ∨ m = 9 ∨ m = 11 then 30 else 31
def isDig (c : UInt8) : Bool := decide (48 ≤ c.toNat) && decide (c.toNat ≤ 57)
def digsP (l : Bs) : Nat := l.foldl (fun a c => 10 * a + (c.toNat - 48)) 0
def atK (y k : Nat) : Nat := if k = 0 then 0 else y + 2 * (k - 1)
def lenK (y k : Nat) : Nat := if k = 0 then y else 2
def partK (y : Nat) (b : Bs) (k : Nat) : Nat := digsP ((b.drop (atK y k)).take (lenK y k))
def yearK (y : Nat) (b : Bs) : Nat := if y = 2 then (if partK y b 0 < 50 then partK y b 0 + 2000 else partK y b 0 + 1900) else partK y b 0
def calP (y m d h mi s : Nat) : Bool := decide (1 ≤ m) && decide (m ≤ 12) && decide (1 ≤ d) && decide (d ≤ daysP y m) && decide (h ≤ 23) && decide (mi ≤ 59) && decide (s ≤ 59)
def timeP (y : Nat) (b : Bs) : Bool :=
 decide (b.length = y + 11) && decide (b.getD (y + 10) 0 = 90) && (b.take (y + 10)).all isDig && calP (yearK y b) (partK y b 1) (partK y b 2) (partK y b 3) (partK y b 4) (partK y b 5)
def signs : Bs := [32, 39, 40, 41, 43, 44, 45, 46, 47, 58, 61, 63]
def printP (c : UInt8) : Bool := (decide (97 ≤ c.toNat) && decide (c.toNat ≤ 122)) || (decide (65 ≤ c.toNat) && decide (c.toNat ≤ 90)) || isDig c || signs.contains c
def contP (n low v : Nat) (r : Bs) : Nat :=
 if r.length < n - 1 then 0 else
 if ((r.take (n - 1)).all fun c => decide (128 ≤ c.toNat) && decide (c.toNat < 192)) = false then 0 else
 if (r.take (n - 1)).foldl (fun a c => 64 * a + c.toNat % 64) v < low ∨ 1114111 < (r.take (n - 1)).foldl (fun a c => 64 * a + c.toNat % 64) v ∨ (55296 ≤ (r.take (n - 1)).foldl (fun a c => 64 * a + c.toNat % 64) v ∧ (r.take (n - 1)).foldl (fun a c => 64 * a + c.toNat % 64) v < 57344) then 0 else n
def runeP : Bs → Nat
 | [] => 0
 | c :: r =>
  if 240 ≤ c.toNat ∧ c.toNat < 248 then contP 4 65536 (c.toNat % 8) r else
  if 224 ≤ c.toNat ∧ c.toNat < 240 then contP 3 2048 (c.toNat % 16) r else
  if 192 ≤ c.toNat ∧ c.toNat < 224 then contP 2 128 (c.toNat % 32) r else
  if 128 ≤ c.toNat then 0 else 1
def utf8P : Nat → Bs → Bool
 | _, [] => true
 | 0, _ :: _ => false
 | k + 1, l => if runeP l = 0 then false else utf8P k (l.drop (runeP l))
def oidP (b : Bs) : Bool := ((List.range b.length).all fun i => !(decide (b.getD i 0 = 128) && (decide (i = 0) || decide ((b.getD (i - 1) 0).toNat < 128)))) && decide (0 < b.length) && decide ((b.getD (b.length - 1) 0).toNat < 128)
def rightP (t : Nat) (b : Bs) : Bool :=
 if t = 1 then decide (b.length = 1) && (decide (b.getD 0 0 = 0) || decide (b.getD 0 0 = 255)) else
 if t = 2 ∨ t = 10 then decide (b.length = 1) || (decide (1 < b.length) && (!decide (b.getD 0 0 = 0) || decide (128 ≤ (b.getD 1 0).toNat)) && (!decide (b.getD 0 0 = 255) || decide ((b.getD 1 0).toNat < 128))) else
 if t = 3 then (if b.length = 0 ∨ 7 < (b.getD 0 0).toNat then false else if b.length = 1 then decide (b.getD 0 0 = 0) else decide ((b.getD (b.length - 1) 0).toNat % 2 ^ (b.getD 0 0).toNat = 0)) else
 if t = 5 then decide (b.length = 0) else
 if t = 6 then oidP b else
 if t = 12 then utf8P b.length b else
 if t = 19 then b.all printP else
 if t = 22 then b.all (fun c => decide (c.toNat < 128)) else
 if t = 23 then timeP 2 b else
 if t = 24 then timeP 4 b else true
def madeT (t : Nat) : Bool := decide (t = 16) || decide (t = 17)
def plainT (t : Nat) : Bool := (decide (1 ≤ t) && decide (t ≤ 6)) || decide (t = 10) || decide (t = 12) || decide (t = 19) || (decide (22 ≤ t) && decide (t ≤ 24))
def formD : Form := fun c t m b => if ¬ c = 0 then 0 else if (madeT t = false ∧ plainT t = false) ∨ ¬ madeT t = m then 21 else if plainT t = true ∧ rightP t b = false then 24 else 0
end Go.Proofs.YtcofnockikninaaGreatDoor
