/- Counters of hashes, in plain words (chapter 13). -/
import Derived.Test.YtamcomlnfdfmeaaProg
namespace Go.Proofs.Ytamcomlnfdfmeaa.Bl
open Go

/-- The lowest 32 bits. -/
def loV (h : Int) : Nat := (h % 4294967296).toNat
def firstV (h : Int) : Nat := loV h % 1024
def secondV (h : Int) : Nat := loV h / 1024 % 1024
/-- The counters of a hash. -/
def ctrs (h : Int) : List Nat := if secondV h = firstV h then [firstV h] else [firstV h, secondV h]
def upV (c : Nat → Nat) (i : Nat) : Nat → Nat := fun j => if j = i ∧ c i < 255 then c i + 1 else c j
def downV (c : Nat → Nat) (i : Nat) : Nat → Nat := fun j => if j = i ∧ 0 < c i ∧ c i < 255 then c i - 1 else c j
def pushV (c : Nat → Nat) (l : List Int) : Nat → Nat := (l.flatMap ctrs).foldl upV c
def popV (c : Nat → Nat) (l : List Int) : Nat → Nat := (l.flatMap ctrs).foldl downV c
def mayV (c : Nat → Nat) (h : Int) : Bool := (ctrs h).all (fun i => decide (c i ≠ 0))
theorem first_lt (h : Int) : firstV h < 1024 := Nat.mod_lt _ (by decide)
theorem second_lt (h : Int) : secondV h < 1024 := Nat.mod_lt _ (by decide)
theorem ctrs_lt {h : Int} {i : Nat} (hi : i ∈ ctrs h) : i < 1024 := by
  unfold ctrs at hi
  split at hi
  · simp at hi; rw [hi]; exact first_lt h
  · simp at hi; rcases hi with rfl | rfl; exact first_lt h; exact second_lt h
theorem all_lt {l : List Int} {i : Nat} (hi : i ∈ l.flatMap ctrs) : i < 1024 := by
  obtain ⟨h, _, hh⟩ := List.mem_flatMap.1 hi
  exact ctrs_lt hh
theorem ctrs_two (h : Int) : ctrs h = if secondV h = firstV h then [firstV h] else [firstV h, secondV h] := rfl
theorem loV_lt (h : Int) : loV h < 4294967296 := by unfold loV; omega
theorem upV_le {c : Nat → Nat} (hc : ∀ i, c i ≤ 255) (i j : Nat) : upV c i j ≤ 255 := by unfold upV; split; omega; exact hc j
theorem downV_le {c : Nat → Nat} (hc : ∀ i, c i ≤ 255) (i j : Nat) : downV c i j ≤ 255 := by unfold downV; split; (have := hc i; omega); exact hc j

end Go.Proofs.Ytamcomlnfdfmeaa.Bl
