/- A law of the walk: a region that draws its order, within a round of a range over a function: as Rgn's, by the same moves. -/
import Derived.Test.YtamcomlnfdfmeaaRgn
import Derived.OrdersIn
import Derived.TacticsIn
import Derived.RangeFuncCalls
namespace Go.Proofs.Ytamcomlnfdfmeaa.Rg
open Go

/-- Left off its end alone. -/
def onlyK (K : Act → World → Prop) : Exit → Act → World → Prop
  | .normal, a, w => K a w
  | _, _, _ => False
def noDefer (ops : Array Oper) : Bool := ops.all fun o => match o.op with | .defer _ => false | _ => true

section
variable {P : Program} {ops : Array Oper} {n l : Nat} {Kn : Act → World → Prop}

theorem letsOut_only : ¬ LetsOut (onlyK Kn) := fun ⟨_, _, h⟩ => h
theorem upon_in {o : Oper} {a : Act} {K : Act → World → Prop} {r : Result Next} (h : o.upon P a K (onlyK Kn) r) : o.uponIn (Fence.wide.inRound l) n P a K (onlyK Kn) r := by
  cases r with
  | ok x w' =>
    cases x with
    | value v => exact h
    | skip => exact h
    | defer d => exact h
    | enter f args =>
      refine ⟨fun e => (by simp [Fence.inRound, Fence.wide] at e), (callsIn_wide.2 h).inRound l |>.mono (fun e w hh => ?_)⟩
      cases e with
      | returned v => exact hh
      | panicked c => exact hh
      | outgrown => exact absurd hh letsOut_only
    | row row args =>
      refine ⟨fun e => (by simp [Fence.inRound, Fence.wide] at e), fun c cs _ => ?_⟩
      obtain ⟨v, w2, h1, h2⟩ := h c cs
      exact ⟨v, w2, h1, stepsIn_wide.2 h2⟩
    | _ => exact h.elim
  | halt x w' =>
    cases x with
    | panic v => exact h
    | _ => exact h.elim

theorem wpOp_in (hno : noDefer ops = true) {i : Nat} {K : Act → World → Prop} {a : Act} {w : World} (h : wpOp P ops (onlyK Kn) i K a w) : wpOpIn (Fence.wide.inRound l) n P ops (onlyK Kn) i K a w := by
  unfold wpOp at h
  unfold wpOpIn
  cases ho : ops[i]? with
  | none => rw [ho] at h; exact h
  | some o =>
    rw [ho] at h
    have hnd : ∀ c, o.op ≠ .defer c := fun c e => by
      have := Array.all_eq_true_iff_forall_mem.1 hno o (Array.mem_of_getElem? ho)
      rw [e] at this
      simp at this
    simp only at h ⊢
    split
    · rename_i hw
      rw [if_pos hw] at h
      rcases h with h | ⟨_, h⟩
      · refine ⟨fun _ _ => trivial, ?_⟩
        rw [show (Fence.wide.inRound l).round = some l from rfl, Oper.semAt_some l _ o hnd]
        exact upon_in h
      · exact absurd h letsOut_only
    · rename_i hw
      rw [if_neg hw] at h
      exact ⟨fun _ _ => trivial, h⟩
theorem wpOpIn_mono' {F : Fence} {Q : Exit → Act → World → Prop} {i : Nat} {K K' : Act → World → Prop} {a : Act} {w : World} (h : ∀ a w, K a w → K' a w) (hh : wpOpIn F n P ops Q i K a w) : wpOpIn F n P ops Q i K' a w := by
  unfold wpOpIn at *
  cases ho : ops[i]? with
  | none => rw [ho] at hh; exact h _ _ hh
  | some o =>
    rw [ho] at hh
    simp only at hh ⊢
    split
    · rename_i hw; rw [if_pos hw] at hh; exact Oper.wpIn_mono h hh
    · rename_i hw; rw [if_neg hw] at hh; exact ⟨hh.1, h _ _ hh.2⟩
theorem wpAny_in (hno : noDefer ops = true) {md : Region.Mode} {D : List Nat} {S : World → Prop} : ∀ (fuel : Nat) (listed : Array Bool) (a : Act) (w : World), wpAnyD P md ops (onlyK Kn) D S fuel listed a w → wpAnyIn (Fence.wide.inRound l) n P md ops (onlyK Kn) fuel listed a w
  | 0, _, _, _, h => h
  | fuel + 1, _, _, _, h => ⟨h.1, fun i hi => wpOpIn_mono' (fun a' w' h' => wpAny_in hno fuel _ a' w' h'.2) (wpOp_in hno (h.2 i hi))⟩

/-- THE LAW: such a region within a round. -/
theorem wpD_round {Q : Exit → Act → World → Prop} {id : Nat} {a : Act} {w : World} (D : List Nat) (S : World → Prop) (hm : P.follows .mixedOrders = true) (hno : noDefer ops = true)
    (h : wpAnyD P .any ops (onlyK (fun a w => Q .normal a w)) D S ops.size (Array.replicate ops.size false) a w.drew) : (Code.region id ops true).wpIn (Fence.wide.inRound l) n P Q a w :=
  wpIn_mono (wpIn_region_any hm (wpAny_in hno _ _ _ _ h)) (fun e a w h => by cases e <;> first | exact h | exact h.elim)
end

end Go.Proofs.Ytamcomlnfdfmeaa.Rg
