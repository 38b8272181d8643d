/- package compute, plain: what a property is of the value that is set, the number above and the length of an em. -/
import Derived.Test.YtacdgfjmmomkpaaDoorVlProp
import Derived.Test.YtacdgfjmmomkpaaDoorBsD
namespace Go.Proofs.YtacdgfjmmomkpaaDoor.Nm
end Go.Proofs.YtacdgfjmmomkpaaDoor.Nm
namespace Go.Proofs.YtacdgfjmmomkpaaDoor.Cp
open Go Go.RowKit Vl Nm

def iniV (p : Int) : Int := (propAt p).2.2
def inhV (p : Int) : Bool := (propAt p).2.1
/-- A product of thousandths. -/
def timesV (a b : Int) : Int := capI ((capI a * capI b).tdiv 1000)
def keyV (p n : Int) : Int × Bool := if p = 2 ∨ p = 3 then (n, true) else if p = 4 then (-1, true) else if p = 7 then (1099511627776, true) else (0, false)
def lenV (p n : Int) : Int × Bool := if p = 1 ∨ p = 4 ∨ p = 5 then (n, true) else (0, false)
def pctV (p n em : Int) : Int × Bool := if p = 1 then ((timesV em n).tdiv 100, true) else if p = 4 then (-2 - n, true) else if p = 5 then (1099511627776 + n, true) else (0, false)
def numV (p n : Int) : Int × Bool := if p = 6 ∨ p = 7 then (n, true) else (0, false)
def colV (p n : Int) : Int × Bool := if p = 0 then (n, true) else (0, false)
def ownV (p k n em : Int) : Int × Bool :=
  if k = 1 then keyV p n else if k = 2 then lenV p n else if k = 3 then lenV p (timesV em n) else if k = 4 then pctV p n em else if k = 5 then numV p n else if k = 6 then colV p n else (0, false)
/-- What the property p is: k, n the kind and number of the value that is set; up what it is above. -/
def compV (p k n up em : Int) : Int :=
  if k = 7 then up else if k = 8 then iniV p else if (ownV p k (capI n) em).2 then (ownV p k (capI n) em).1 else if inhV p then up else iniV p
/-- The style; u: the style above. -/
def ofV (k n u : Nat → Int) (p : Nat) : Int :=
  compV p (k p) (n p) (u p) (if p = 1 then u 1 else compV 1 (k 1) (n 1) (u 1) (u 1))
def rootV (p : Nat) : Int := iniV p

theorem timesV_ge (a b : Int) : -2147483647 ≤ timesV a b := capI_ge _
theorem timesV_le (a b : Int) : timesV a b ≤ 2147483647 := capI_le _

/-! ### values: eight numbers; eight values of two cells -/
abbrev styL (s : Nat → Int) : List Value := [.int .i64 (s 0), .int .i64 (s 1), .int .i64 (s 2), .int .i64 (s 3), .int .i64 (s 4), .int .i64 (s 5), .int .i64 (s 6), .int .i64 (s 7)]
abbrev valL (k n : Nat → Int) : List Value := [.int .i64 (k 0), .int .i64 (n 0), .int .i64 (k 1), .int .i64 (n 1), .int .i64 (k 2), .int .i64 (n 2), .int .i64 (k 3), .int .i64 (n 3), .int .i64 (k 4), .int .i64 (n 4), .int .i64 (k 5), .int .i64 (n 5), .int .i64 (k 6), .int .i64 (n 6), .int .i64 (k 7), .int .i64 (n 7)]
theorem styL_at (s : Nat → Int) {p : Nat} (hp : p < 8) : (styL s).toArray[p]? = some (.int .i64 (s p)) := by
  obtain rfl | rfl | rfl | rfl | rfl | rfl | rfl | rfl : p = 0 ∨ p = 1 ∨ p = 2 ∨ p = 3 ∨ p = 4 ∨ p = 5 ∨ p = 6 ∨ p = 7 := by omega
  all_goals rfl
theorem valL_at (k n : Nat → Int) {p : Nat} (hp : p < 8) : (valL k n).toArray[p * 2]? = some (.int .i64 (k p)) ∧ (valL k n).toArray[p * 2 + 1]? = some (.int .i64 (n p)) := by
  obtain rfl | rfl | rfl | rfl | rfl | rfl | rfl | rfl : p = 0 ∨ p = 1 ∨ p = 2 ∨ p = 3 ∨ p = 4 ∨ p = 5 ∨ p = 6 ∨ p = 7 := by omega
  all_goals exact ⟨rfl, rfl⟩
/-- Block B holds the style s. -/
def StyAt (W : World) (B : Nat) (s : Nat → Int) : Prop := Blk W B 23 (styL s)
theorem StyAt.cell {W : World} {B : Nat} {s : Nat → Int} (h : StyAt W B s) {p : Nat} (hp : p < 8) : W.cell? ⟨B, p, none⟩ = some (.int .i64 (s p)) ∧ W.frozen? ⟨B, p, none⟩ = false :=
  ⟨(cell_of_block h p).trans (styL_at s hp), by simp [World.frozen?, show W.heap[B]? = _ from h]⟩
def putV (s : Nat → Int) (p : Nat) (x : Int) : Nat → Int := fun i => if i = p then x else s i
theorem StyAt.put {W : World} {B : Nat} {s : Nat → Int} (h : StyAt W B s) {p : Nat} (hp : p < 8) (x : Int) : StyAt (W.setCell ⟨B, p, none⟩ (.int .i64 x)) B (putV s p x) := by
  have hb : B < W.heap.size := h.lt
  have hx : W.heap[B] = .cells (styL s).toArray 23 (0, 0) := (Array.getElem?_eq_some_iff.1 h).2
  unfold StyAt Blk
  simp only [World.setCell, Array.getElem?_modify, Array.getElem?_eq_getElem hb, hx, Option.map_some]
  congr 2
  obtain rfl | rfl | rfl | rfl | rfl | rfl | rfl | rfl : p = 0 ∨ p = 1 ∨ p = 2 ∨ p = 3 ∨ p = 4 ∨ p = 5 ∨ p = 6 ∨ p = 7 := by omega
  all_goals rfl
theorem StyAt.ext {W : World} {B : Nat} {s s' : Nat → Int} (h : StyAt W B s) (e : ∀ i, i < 8 → s' i = s i) : StyAt W B s' := by
  have : styL s' = styL s := by simp only [styL, e 0 (by decide), e 1 (by decide), e 2 (by decide), e 3 (by decide), e 4 (by decide), e 5 (by decide), e 6 (by decide), e 7 (by decide)]
  unfold StyAt
  rw [this]
  exact h
theorem infoSty : (Tryd.prog.info? 23).map (·.size) = some 8 := by kernel_rfl
theorem styL_ext {s s' : Nat → Int} (e : ∀ i, i < 8 → s' i = s i) : styL s' = styL s := by
  simp only [styL, e 0 (by decide), e 1 (by decide), e 2 (by decide), e 3 (by decide), e 4 (by decide), e 5 (by decide), e 6 (by decide), e 7 (by decide)]

end Go.Proofs.YtacdgfjmmomkpaaDoor.Cp
