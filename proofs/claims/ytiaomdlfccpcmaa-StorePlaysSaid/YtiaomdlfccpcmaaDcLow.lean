/- text.Lower and the document's own Lower, at every string: the bytes A to Z are a to z, all others stay. -/
import Derived.Laws.IdiomStrings
import Derived.Deep.QuietTactic
import Derived.BigQuiet
import Derived.Below
import Derived.WalkKit
import Derived.Test.YtiaomdlfccpcmaaProg
namespace Go.Proofs.Ytiaomdlfccpcmaa.Lw
open Go Go.RowKit

def lowB (c : UInt8) : UInt8 := if 65 ≤ c.toNat ∧ c.toNat ≤ 90 then UInt8.ofNat (c.toNat + 32) else c
def low (l : List UInt8) : List UInt8 := l.map lowB
theorem lowB_hit {c : UInt8} (h1 : 65 ≤ c.toNat) (h2 : c.toNat ≤ 90) : (lowB c).toNat = c.toNat + 32 := by
  unfold lowB
  rw [if_pos ⟨h1, h2⟩, UInt8.toNat_ofNat']
  omega
theorem lowB_miss {c : UInt8} (h : ¬ (65 ≤ c.toNat ∧ c.toNat ≤ 90)) : lowB c = c := by unfold lowB; rw [if_neg h]
theorem lowB_lowB (c : UInt8) : lowB (lowB c) = lowB c := by
  by_cases h : 65 ≤ c.toNat ∧ c.toNat ≤ 90
  · have := lowB_hit h.1 h.2
    exact lowB_miss (by omega)
  · rw [lowB_miss h, lowB_miss h]
theorem low_low (l : List UInt8) : low (low l) = low l := by simp [low, lowB_lowB]
theorem low_length (l : List UInt8) : (low l).length = l.length := by simp [low]

/-- THE BLOCK g HOLDS THE BYTES f 0 .. f (n - 1), and they may be written. -/
def Row (W : World) (g n : Nat) (f : Nat → UInt8) : Prop := ∀ j, j < n → W.cell? ⟨g, j, none⟩ = some (.int .u8 (f j).toNat) ∧ W.frozen? ⟨g, j, none⟩ = false
theorem Row.set {W : World} {g n k : Nat} {f : Nat → UInt8} (h : Row W g n f) (hk : k < n) (u : UInt8) : Row (W.setCell ⟨g, k, none⟩ (.int .u8 u.toNat)) g n (fun j => if j = k then u else f j) := fun j hj => by
  refine ⟨?_, by rw [World.frozen?_setCell]; exact (h j hj).2⟩
  by_cases e : j = k
  · subst e
    simp only [if_true]
    exact World.cell?_setCell_same' _ _ _ (by rw [(h j hk).1]; rfl)
  · simp only [e, if_false]
    rw [World.cell?_setCell_other _ _ _ _ (by simp)]
    exact (h j hj).1

def step (l : List UInt8) (k j : Nat) : UInt8 := if j < k then lowB (l[j]?.getD 0) else l[j]?.getD 0
theorem step_zero (l : List UInt8) : step l 0 = fun j => l[j]?.getD 0 := funext fun j => if_neg (Nat.not_lt_zero j)
theorem step_at (l : List UInt8) (k : Nat) : step l k k = l[k]?.getD 0 := if_neg (Nat.lt_irrefl k)
theorem step_hit (l : List UInt8) (k : Nat) : (fun j => if j = k then lowB (l[k]?.getD 0) else step l k j) = step l (k + 1) := funext fun j => by
  unfold step
  by_cases e : j = k
  · subst e; simp
  · by_cases h : j < k
    · rw [if_neg e, if_pos h, if_pos (by omega)]
    · rw [if_neg e, if_neg h, if_neg (by omega)]
theorem step_miss (l : List UInt8) (k : Nat) (h : lowB (l[k]?.getD 0) = l[k]?.getD 0) : step l k = step l (k + 1) := by
  rw [← step_hit]
  funext j
  by_cases e : j = k
  · subst e; rw [if_pos rfl, h, step_at]
  · rw [if_neg e]

end Go.Proofs.Ytiaomdlfccpcmaa.Lw
