/- num.Of at every string: cutSign, strings.Cut at a point, isNumber; what the world must hold. -/
import Derived.Test.YtgfbgfcakblpoaaNmDig
import Derived.Below
import Derived.Shelf.Abstract
namespace Go.Proofs.Ytgfbgfcakblpoaa.Nm
open Go Go.RowKit Go.Shelf

def PowAt (_n₀ : Nat) (_w : World) : Prop := True
theorem PowAt.on {n₀ : Nat} {w w' : World} (h : PowAt n₀ w) (_hb : Below n₀ w w') : PowAt n₀ w' := h
theorem PowAt.mono {n₀ n₁ : Nat} {w : World} (h : PowAt n₀ w) (_hn : n₀ ≤ n₁) : PowAt n₁ w := h
theorem below_drewN (w : World) (n : Nat) : Below w.heap.size w (w.drewN n) := ⟨rfl, rfl, rfl, Nat.le_refl _, fun _ _ => rfl⟩

def below (l : List UInt8) : Bool := l.head? == some 45
def lessOne (c : UInt8) (l : List UInt8) : List UInt8 := if l.head? == some c then l.tail else l
def bare (l : List UInt8) : List UInt8 := if below l then l.tail else lessOne 43 l
def numA (l : List UInt8) : List UInt8 := (bare l).takeWhile (· != 46)
def numB (l : List UInt8) : List UInt8 := ((bare l).dropWhile (· != 46)).tail
def numP (l : List UInt8) : Bool := (bare l).any (· == 46)
def isNum (a b : List UInt8) (p : Bool) : Bool := allDig a && allDig b && (if p then !b.isEmpty else !a.isEmpty)
def numV (l : List UInt8) : Int := grown (grown 0 (numA l)) (thou (numB l))
def numOk (l : List UInt8) : Bool := isNum (numA l) (numB l) (numP l)
def numN (l : List UInt8) : Int := if numOk l then (if below l then -numV l else numV l) else 0

theorem lessOne_le (c : UInt8) (l : List UInt8) : (lessOne c l).length ≤ l.length := by
  unfold lessOne
  split
  · simp
  · exact Nat.le_refl _
theorem tail_le (t : List UInt8) : ((t.dropWhile (· != 46)).tail).length ≤ t.length := by
  have := (List.dropWhile_sublist (l := t) (· != 46)).length_le
  rw [List.length_tail]
  omega
theorem bare_le (l : List UInt8) : (bare l).length ≤ l.length := by
  unfold bare
  split
  · simp
  · exact lessOne_le 43 l
theorem grown_bounds : ∀ (l : List UInt8) (n : Int), 0 ≤ n → n ≤ 2147483647 → allDig l = true → 0 ≤ grown n l ∧ grown n l ≤ 2147483647
  | [], n, h0, h1, _ => ⟨h0, h1⟩
  | c :: l, n, h0, h1, hd => by
    have hd' : dig c = true ∧ allDig l = true := by simpa [allDig] using hd
    exact grown_bounds l (grow1 n c) (grow1_ge h0 (dig_iff.1 hd'.1).1) (grow1_le n c) hd'.2
theorem thou_dig {l : List UInt8} (h : allDig l = true) : allDig (thou l) = true := by
  unfold thou allDig at *
  rw [List.all_append, Bool.and_eq_true]
  refine ⟨List.all_eq_true.2 fun c hc => List.all_eq_true.1 h c (List.mem_of_mem_take hc), List.all_eq_true.2 fun c hc => ?_⟩
  have := List.mem_of_mem_drop hc
  simp at this
  subst this
  decide
theorem thou_len (l : List UInt8) : (thou l).length = 3 := by
  unfold thou
  rw [List.length_append, List.length_take, List.length_drop]
  simp
  omega

end Go.Proofs.Ytgfbgfcakblpoaa.Nm
