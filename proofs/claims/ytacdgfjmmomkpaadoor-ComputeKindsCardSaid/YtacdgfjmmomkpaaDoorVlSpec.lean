/- Values, as plain functions: what a word, digits, a length, a number, a token are to each property; as package value reads them and as the document says it, and that both are one. -/
import Derived.WalkKit
namespace Go.Proofs.YtacdgfjmmomkpaaDoor.Vl
open Go

/-- A value: its kind, its number, whether there is one. -/
abbrev Vv := Int × Int × Bool
def no : Vv := (0, 0, false)
/-- The code's table of words: the property (-1: each), the word, the value. -/
def wordsT : List (Int × List UInt8 × Int × Int) :=
  [(-1, [105, 110, 104, 101, 114, 105, 116], 7, 0), (-1, [105, 110, 105, 116, 105, 97, 108], 8, 0), (-1, [117, 110, 115, 101, 116], 9, 0),
   (0, [98, 108, 97, 99, 107], 6, 0), (0, [119, 104, 105, 116, 101], 6, 16777215), (0, [114, 101, 100], 6, 16711680), (0, [103, 114, 101, 101, 110], 6, 32768), (0, [98, 108, 117, 101], 6, 255),
   (2, [108, 101, 102, 116], 1, 0), (2, [114, 105, 103, 104, 116], 1, 1), (2, [99, 101, 110, 116, 101, 114], 1, 2),
   (3, [110, 111, 110, 101], 1, 0), (3, [98, 108, 111, 99, 107], 1, 1), (3, [105, 110, 108, 105, 110, 101], 1, 2), (4, [97, 117, 116, 111], 1, 0), (7, [97, 117, 116, 111], 1, 0)]
def hits (r : Int × List UInt8 × Int × Int) (p : Int) (s : List UInt8) : Bool := (decide (r.1 = p) || decide (r.1 = -1)) && decide (r.2.1 = s)
def wordL : List (Int × List UInt8 × Int × Int) → Int → List UInt8 → Vv
  | [], _, _ => no
  | r :: l, p, s => if hits r p s then (r.2.2.1, r.2.2.2, true) else wordL l p s
def wordV (p : Int) (s : List UInt8) : Vv := wordL wordsT p s

/-! ### digits -/
def digV (c : UInt8) : Int × Bool :=
  if 48 ≤ c.toNat ∧ c.toNat ≤ 57 then ((c.toNat : Int) - 48, true) else if 97 ≤ c.toNat ∧ c.toNat ≤ 102 then ((c.toNat : Int) - 87, true) else if 65 ≤ c.toNat ∧ c.toNat ≤ 70 then ((c.toNat : Int) - 55, true) else (0, false)
theorem digV_bounds (c : UInt8) : 0 ≤ (digV c).1 ∧ (digV c).1 ≤ 15 := by
  unfold digV
  repeat' split
  all_goals simp only
  all_goals omega
/-- The number so far, with one digit more. -/
def more (sh : Bool) (n d : Int) : Int := if sh then 16 * (16 * n + d) + d else 16 * n + d
def colF (sh : Bool) : Int → List UInt8 → Option Int
  | n, [] => some n
  | n, c :: l => if (digV c).2 then colF sh (more sh n (digV c).1) l else none
def colorN (s : List UInt8) : Option Int := if s.length = 3 ∨ s.length = 6 then colF (s.length == 3) 0 s else none
def colorV (p : Int) (s : List UInt8) : Vv := if p = 0 then match colorN s with
    | some n => (6, n, true)
    | none => no
  else no
def lengthV (p k n : Int) : Vv := if p = 5 ∨ (0 ≤ n ∧ (p = 1 ∨ p = 4)) then (k, n, true) else no
def cutV (n : Int) : Int := if n < 0 then 0 else if 1000 < n then 1000 else n
def numberV (p n : Int) (wh : Bool) : Vv := if p = 5 ∧ n = 0 then (2, 0, true) else if p = 6 then (5, cutV n, true) else if p = 7 ∧ wh = true then (5, n, true) else no
def pxT : List UInt8 := [112, 120]
def emT : List UInt8 := [101, 109]
/-- What a token is to a property; low: its text in small letters. -/
def readV (p kind : Int) (text low : List UInt8) (n : Int) (wh : Bool) : Vv :=
  if kind = 1 then wordV p low
  else if kind = 3 then colorV p text
  else if kind = 8 then (if low = pxT then lengthV p 2 n else if low = emT then lengthV p 3 n else no)
  else if kind = 7 then lengthV p 4 n
  else if kind = 6 then numberV p n wh
  else no

/-! ### the document's own -/
def idx : List (List UInt8) → List UInt8 → Option Nat
  | [], _ => none
  | x :: l, s => if x = s then some 0 else (idx l s).map (· + 1)
def wideT : List (List UInt8) := [[105, 110, 104, 101, 114, 105, 116], [105, 110, 105, 116, 105, 97, 108], [117, 110, 115, 101, 116]]
def colT : List (List UInt8) := [[98, 108, 97, 99, 107], [119, 104, 105, 116, 101], [114, 101, 100], [103, 114, 101, 101, 110], [98, 108, 117, 101]]
def alT : List (List UInt8) := [[108, 101, 102, 116], [114, 105, 103, 104, 116], [99, 101, 110, 116, 101, 114]]
def dispT : List (List UInt8) := [[110, 111, 110, 101], [98, 108, 111, 99, 107], [105, 110, 108, 105, 110, 101]]
def autoT : List (List UInt8) := [[97, 117, 116, 111]]
def keyV (kind : Int) (low : List UInt8) (l : List (List UInt8)) : Vv := if kind = 1 then match idx l low with
    | some n => (1, (n : Int), true)
    | none => no
  else no
def lenV (kind : Int) (low : List UInt8) (n : Int) : Vv := if kind = 7 then (4, n, true) else if kind = 8 ∧ low = pxT then (2, n, true) else if kind = 8 ∧ low = emT then (3, n, true) else no
def colTab : List Int := [0, 16777215, 16711680, 32768, 255]
def restV (p kind : Int) (text low : List UInt8) (n : Int) (wh : Bool) : Vv :=
  if p = 0 then (if kind = 3 then (match colorN text with
      | some n => (6, n, true)
      | none => no) else if kind = 1 then (match idx colT low with
      | some i => (6, colTab.getD i 0, true)
      | none => no) else no)
  else if p = 2 then keyV kind low alT
  else if p = 3 then keyV kind low dispT
  else if p = 6 then (if kind = 6 then (5, cutV n, true) else no)
  else if p = 7 then (if kind = 6 ∧ wh = true then (5, n, true) else keyV kind low autoT)
  else if p = 5 then (if kind = 6 ∧ n = 0 then (2, 0, true) else lenV kind low n)
  else if (lenV kind low n).2.2 = true ∧ n < 0 then no
  else if (lenV kind low n).2.2 = false ∧ p = 4 then keyV kind low autoT
  else lenV kind low n
def refV (p kind : Int) (text low : List UInt8) (n : Int) (wh : Bool) : Vv :=
  if kind = 1 then (match idx wideT low with
    | some i => (7 + (i : Int), 0, true)
    | none => restV p kind text low n wh)
  else restV p kind text low n wh

theorem wordV_eq (p : Int) (hp : 0 ≤ p ∧ p < 8) (text low : List UInt8) (n : Int) (wh : Bool) : refV p 1 text low n wh = wordV p low := by
  obtain rfl | rfl | rfl | rfl | rfl | rfl | rfl | rfl : p = 0 ∨ p = 1 ∨ p = 2 ∨ p = 3 ∨ p = 4 ∨ p = 5 ∨ p = 6 ∨ p = 7 := by omega
  all_goals
    simp only [refV, restV, keyV, lenV, wordV, wordL, wordsT, hits, idx, wideT, colT, alT, dispT, autoT, colTab, no]
    simp
    repeat' (first | rfl | split)
    all_goals (try simp_all)
    all_goals (try subst_vars)
    all_goals (try rfl)
    all_goals (try omega)
theorem refV_eq (p : Int) (hp : 0 ≤ p ∧ p < 8) (kind : Int) (text low : List UInt8) (n : Int) (wh : Bool) : refV p kind text low n wh = readV p kind text low n wh := by
  by_cases h1 : kind = 1
  · subst h1
    rw [wordV_eq p hp]
    rfl
  have e : refV p kind text low n wh = restV p kind text low n wh := by unfold refV; rw [if_neg h1]
  rw [e]
  obtain rfl | rfl | rfl | rfl | rfl | rfl | rfl | rfl : p = 0 ∨ p = 1 ∨ p = 2 ∨ p = 3 ∨ p = 4 ∨ p = 5 ∨ p = 6 ∨ p = 7 := by omega
  all_goals
    simp [restV, readV, keyV, lenV, colorV, lengthV, numberV, no, h1]
    repeat' split
    all_goals first | rfl | omega | simp_all | (simp_all; omega)

end Go.Proofs.YtacdgfjmmomkpaaDoor.Vl
