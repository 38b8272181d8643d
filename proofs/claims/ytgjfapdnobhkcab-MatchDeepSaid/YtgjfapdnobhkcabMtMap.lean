/- package match: maps from spots to what is asked there. -/
import Derived.Test.YtgjfapdnobhkcabMtFound
namespace Go.Proofs.Ytgjfapdnobhkcab.Mt
open Go Go.RowKit Dm

theorem mapLaid : laidOutB Try.prog = true := by kernel_rfl
theorem keyT : Try.prog.keyType 110 = true := by kernel_rfl
theorem typesFew : decide (Try.prog.types.size + 2 ≤ 10000) = true := by kernel_rfl
theorem spotLt : decide (110 < Try.prog.types.size) = true := by kernel_rfl
theorem spotKeyed : Maps.Keyed Try.prog 110 := Maps.Keyed.of_law (deep_law_gate mapLaid (of_decide_eq_true typesFew) (of_decide_eq_true spotLt) keyT (by rw [Try.underlying110]))
theorem zeroPs (w : World) : (zeroValue 131).run Try.prog w = .ok (.slice none 0 0) w := by kernel_rfl
theorem wf64 {k : Nat} (h : k < 1099511627776) : (Lit.int .i64 (k : Int)).wf = true := WalkArith.wf_i64 (by omega)
theorem cellsSpot : Try.prog.cellsOf 110 = 2 := by kernel_rfl
theorem cellsI : Try.prog.cellsOf 3 = 1 := by kernel_rfl
theorem keyL_of {k j : Nat} (hk : k < 1099511627776) (hj : j < 1099511627776) : keyOf Try.prog 110 (.agg #[.int .i64 k, .int .i64 j]) = some (keyL k j) := by
  have hsz : ∃ m, Try.prog.types.size = m + 1 := ⟨_, rfl⟩
  obtain ⟨m, hm⟩ := hsz
  unfold keyOf
  simp only [Try.underlying110]
  rw [if_pos (by simp [keyT, Value.formed, Try.underlying110, cellsSpot]), hm]
  unfold Program.keyLits
  simp only [Try.underlying110, Value.cells]
  rw [if_pos (by rw [cellsSpot]; exact ⟨rfl, by decide +kernel⟩)]
  simp [List.mapM_cons, cellsI, Program.keyLits, Try.underlying3, wf64 hk, wf64 hj, keyL]
theorem keyL_inj {k j k' j' : Nat} (hk : k < 1099511627776) (hj : j < 1099511627776) (hk' : k' < 1099511627776) (hj' : j' < 1099511627776) (h : keyL k j = keyL k' j') : k = k' ∧ j = j' := by
  have e := spotKeyed.inj (keyL_of hk hj) (by rw [keyL_of hk' hj', h])
  simp at e
  omega
theorem keyL_lit {k j : Nat} (hk : k < 1099511627776) (hj : j < 1099511627776) : WideAt.IsKeyLit (keyL k j) := spotKeyed.key (keyL_of hk hj)
theorem MapObj.owns {W : World} {M n : Nat} {D : DataW Value} {o : Obj} (h : MapObj o n D) (ho : W.heap[M]? = some o) : W.ownsMap Try.prog 110 held M n D := by
  obtain ⟨es, clock, rfl, h1, h2, h3⟩ := h
  exact ⟨es, clock, ho, h1, h2, h3⟩
theorem owns_obj {W : World} {M n : Nat} {D : DataW Value} (h : W.ownsMap Try.prog 110 held M n D) : ∃ o, W.heap[M]? = some o ∧ MapObj o n D := by
  obtain ⟨es, clock, h0, h1, h2, h3⟩ := h
  exact ⟨_, h0, es, clock, rfl, h1, h2, h3⟩
/-- An existing block that is for nothing yet is for something. -/
theorem Step.assign {E : Env} {γ γ' : Ghost} {W X : World} (h : Step E γ W γ' X) {B : Nat} {r : Role} {o : Obj} (hB : W.heap.size ≤ B) (hn : γ' B = .none) (hn0 : E.n₀ ≤ W.heap.size) (ho : X.heap[B]? = some o) (hr : RoleOk E (addG γ' B r) B o r) : Step E γ W (addG γ' B r) X := by
  have mono : ∀ k x, γ' k = some x → addG γ' B r k = some x := fun k x hk => by
    rw [addG_other r (fun e => by rw [e, hn] at hk; cases hk)]
    exact hk
  refine ⟨⟨h.inv.low, fun A r' hA => ?_⟩, h.size, fun k hk => (addG_other r (by omega)).trans (h.role k hk), h.block⟩
  by_cases e : A = B
  · subst e
    rw [addG_same] at hA
    cases hA
    exact ⟨by omega, o, ho, hr⟩
  · rw [addG_other r e] at hA
    obtain ⟨h1, o', ho', hr'⟩ := h.inv.each A r' hA
    exact ⟨h1, o', ho', hr'.mono mono⟩
/-- All spots that there can be. -/
def allSpots : List (Nat × Nat) := (List.range 50).flatMap (fun k => (List.range 1099511627776).map (fun j => (k, j)))
theorem allSpots_len : allSpots.length = 50 * 1099511627776 := by
  unfold allSpots
  rw [List.length_flatMap]
  simp only [List.length_map, List.length_range]
  rfl
theorem spots_few {ks : List (Nat × Nat)} (hn : ks.Nodup) (h : ∀ k j, (k, j) ∈ ks → k < 50 ∧ j < 1099511627776) : ks.length ≤ 50 * 1099511627776 := by
  rw [← allSpots_len]
  refine hn.length_le_of_subset (fun x hx => ?_)
  obtain ⟨k, j⟩ := x
  obtain ⟨h1, h2⟩ := h k j hx
  exact List.mem_flatMap.2 ⟨k, List.mem_range.2 h1, List.mem_map.2 ⟨j, List.mem_range.2 h2, rfl⟩⟩

end Go.Proofs.Ytgjfapdnobhkcab.Mt
