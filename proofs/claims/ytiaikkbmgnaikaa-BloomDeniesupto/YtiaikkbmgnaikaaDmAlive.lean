/- The laws' own alive; nodes that a law itself lays. -/
import Derived.Test.YtiaikkbmgnaikaaDmSame
namespace Go.Proofs.Ytiaikkbmgnaikaa.Dm
open Go Go.RowKit

/-- A slice of nodes in a block that is known whole. -/
theorem nodes_new {w : World} {B : Nat} {l : List Nv} (hB : Blk w B 25 (l.flatMap nvCells)) (hl : l.length ≤ 1000000) (hc : ∀ n ∈ l, StrsAt w.heap.size w n.cv n.nd.cls) (ha : ∀ n ∈ l, PairsAt w.heap.size w n.av n.nd.ats) :
    NodesAt w.heap.size w (.slice (some ⟨B, 0, none⟩) l.length l.length) l := by
  refine ⟨.inr ⟨B, 0, l.length, rfl, Nat.le_refl _, by unfold maxLen; omega, hB.lt, fun j x hj i u hu => ?_⟩, hc, ha⟩
  have hi : i < 5 := (List.getElem?_eq_some_iff.1 hu).1
  rw [Nat.zero_add, cell_of_block (show w.heap[B]? = _ from hB), List.getElem?_toArray, flat_at (sz := 5) (f := nvCells) (fun _ => rfl) l j x hj i hi]
  exact hu
theorem strs_nil (n₀ : Nat) (w : World) : StrsAt n₀ w (.slice none 0 0) [] := .inl ⟨rfl, .inl rfl⟩
theorem pairs_nil (n₀ : Nat) (w : World) : PairsAt n₀ w (.slice none 0 0) [] := .inl ⟨rfl, .inl rfl⟩
/-- A node that has a parent alone. -/
def bare (p : Int) : Nv := ⟨⟨p, ⟨#[]⟩, ⟨#[]⟩, [], []⟩, .slice none 0 0, .slice none 0 0⟩
theorem bare_ok (p : Int) : NdOk (bare p).nd := ⟨Nat.zero_le _, Nat.zero_le _, fun _ h => (by cases h), fun _ h => (by cases h), Nat.zero_le _, Nat.zero_le _⟩
theorem alive_new : newV ([bare (-1), bare 0].map Nv.nd) = .ok [⟨lowN (bare (-1)).nd, 0, 1, [1]⟩, ⟨lowN (bare 0).nd, 1, 1, []⟩] := by rfl
theorem infoNode : (Try.prog.info? 25).map (fun i => (i.zero, i.size, i.bytes)) = some (some (.agg #[.int .i64 0, .string ⟨#[]⟩, .string ⟨#[]⟩, .slice none 0 0, .slice none 0 0]), 5, 88) := by kernel_rfl


end Go.Proofs.Ytiaikkbmgnaikaa.Dm
