/-
  NARROWER THAN 'FOR EVERY INPUT', by the rows' own cells (each row's printed sentence says how): WeighLists: loops.
  DERIVED. THE GIVEN ROWS OF THIS SEAT. 3 by the template 'for every input the law returns true; each argument reads behind the call as it read before'; 0 by the template 'total and deterministic' (their statements: YtgjjedodbgimfaaTotals.lean).
  GIVEN WITH THE SEED: the statements are not yours to turn. If you find one false, say at which input.
  Laid BY PROGRAM, IN A SANDBOX (cutbox-rows.mjs): the forced cells as the released guide's own fill.sh prints them over the translation 6f6417ade009ec59… (all of the seat's roots in one cut). By AI agents, Wed Nov 11 2026. No macro, syntax, notation, axiom, sorry.
-/
import Derived.Test.YtgjjedodbgimfaaChecked
import GoSem.Claim
import GoSem.ClaimJoined
import GoSem.ClaimMapViews
import Derived.JoinedTies
import Derived.KernelRfl
namespace Go.Proofs.Ytgjjedodbgimfaa
/- THE CELL 'sum', in the pinned program and in every row, IS THE sha256 OF THE DUMP (.gsa) THAT YtgjjedodbgimfaaProg.lean LOADS. Nothing in Lean hashes anything: it is a label: what it is worth is what the hold of that sum in a sandbox is worth. -/
noncomputable def Try.pinned : Pinned := { name := "ytgjjedodbgimfaa", sum := "6f6417ade009ec5935bbeb5d8a5c6c0581dddf7b4fdf9fc22febfb1300df2a69", checked := Try.checked }
namespace Rows
def none {H : Type} : Left H := { results := [], args := [] }

/-- 'tapestrierlaw11.WeighMany': WHATEVER THE INPUT: true; the input reads as it did. -/
def weighManySpec : ChangeSpec := { name := "weighMany", fn := fun _ => fun
  | [d1, d2, d3] => { results := [.lit (.bool true)], args := [d1, d2, d3] }
  | _ => none }
def weighManyRow : OpenClaim := { program := "ytgjjedodbgimfaa", sum := "6f6417ade009ec5935bbeb5d8a5c6c0581dddf7b4fdf9fc22febfb1300df2a69", func := "tapestrier/tapestrierlaw11.WeighMany", spec := "weighMany", recurses := true, apart := false }
def WeighManySaid : Prop := weighManyRow.holds Try.pinned (OpenSpec.ofChange weighManySpec)

/-- ITS FALSE NEIGHBOUR: 'it returns false'. Refute it at one input. -/
def weighManyWrong : ChangeSpec := { name := "weighMany", fn := fun _ => fun
  | [d1, d2, d3] => { results := [.lit (.bool false)], args := [d1, d2, d3] }
  | _ => none }
def WeighManyWrongFalsely : Prop := weighManyRow.holds Try.pinned (OpenSpec.ofChange weighManyWrong)

/-- 'tapestrierlaw11.WeighKinds': WHATEVER THE INPUT: true; the input reads as it did. -/
def weighKindsSpec : ChangeSpec := { name := "weighKinds", fn := fun _ => fun
  | [d1, d2] => { results := [.lit (.bool true)], args := [d1, d2] }
  | _ => none }
def weighKindsRow : OpenClaim := { program := "ytgjjedodbgimfaa", sum := "6f6417ade009ec5935bbeb5d8a5c6c0581dddf7b4fdf9fc22febfb1300df2a69", func := "tapestrier/tapestrierlaw11.WeighKinds", spec := "weighKinds", recurses := true, apart := false }
def WeighKindsSaid : Prop := weighKindsRow.holds Try.pinned (OpenSpec.ofChange weighKindsSpec)

/-- ITS FALSE NEIGHBOUR: 'it returns false'. Refute it at one input. -/
def weighKindsWrong : ChangeSpec := { name := "weighKinds", fn := fun _ => fun
  | [d1, d2] => { results := [.lit (.bool false)], args := [d1, d2] }
  | _ => none }
def WeighKindsWrongFalsely : Prop := weighKindsRow.holds Try.pinned (OpenSpec.ofChange weighKindsWrong)

/-- 'tapestrierlaw11.WeighLists': WHATEVER THE INPUT: true; the input reads as it did. -/
def weighListsSpec : ChangeSpec := { name := "weighLists", fn := fun _ => fun
  | [d1, d2, d3] => { results := [.lit (.bool true)], args := [d1, d2, d3] }
  | _ => none }
def weighListsRow : OpenClaim := { program := "ytgjjedodbgimfaa", sum := "6f6417ade009ec5935bbeb5d8a5c6c0581dddf7b4fdf9fc22febfb1300df2a69", func := "tapestrier/tapestrierlaw11.WeighLists", spec := "weighLists", recurses := true, loops := true, apart := false }
def WeighListsSaid : Prop := weighListsRow.holds Try.pinned (OpenSpec.ofChange weighListsSpec)

/-- ITS FALSE NEIGHBOUR: 'it returns false'. Refute it at one input. -/
def weighListsWrong : ChangeSpec := { name := "weighLists", fn := fun _ => fun
  | [d1, d2, d3] => { results := [.lit (.bool false)], args := [d1, d2, d3] }
  | _ => none }
def WeighListsWrongFalsely : Prop := weighListsRow.holds Try.pinned (OpenSpec.ofChange weighListsWrong)

/- THE SECOND FORM. 'bulk': how many values and letters a reading holds, each counted each time it is reached (what is shared counts as often as it is met; a slice's spare places count too). A statement '..UptoSaid' is the law's where the arguments, and the package variables that the reading takes, are together of bulk at most 1048576: NARROWER than '..Said'. Prove '..Said' where nothing that the law and all that it calls make is longer than what came in: it says more and counts as full. Else prove '..UptoSaid'. A law counts once. -/
mutual
def uptoBulk {H : Type} : DataW H → Nat
  | .lit (.string bytes) => bytes.length + 1
  | .lit _ => 1
  | .nil => 1
  | .ptr d => uptoBulk d + 1
  | .slice elems spare => uptoBulkAll elems + uptoBulkAll spare + 1
  | .agg parts => uptoBulkAll parts + 1
  | .iface _ d => uptoBulk d + 1
  | .map entries => uptoBulkEntries entries + 1
  | .held _ => 1
def uptoBulkAll {H : Type} : List (DataW H) → Nat
  | [] => 0
  | d :: r => uptoBulk d + uptoBulkAll r
def uptoBulkEntries {H : Type} : List (Lit × DataW H) → Nat
  | [] => 0
  | x :: r => uptoBulkEntry x + uptoBulkEntries r
def uptoBulkEntry {H : Type} : Lit × DataW H → Nat
  | (.string bytes, d) => bytes.length + uptoBulk d + 1
  | (_, d) => uptoBulk d + 1
 end
def uptoSmall : (H : Type) → List (DataW H) → Bool := fun _ ds => decide (uptoBulkAll ds ≤ 1048576)
def OpenSpec.upto (s : _root_.Go.ChangeSpec) : _root_.Go.OpenSpec := { _root_.Go.OpenSpec.ofChange s with cond := some uptoSmall }

/-- 'tapestrierlaw11.WeighMany', WHERE WHAT IT READS IS OF BULK AT MOST 1048576: true; the input reads as it did. -/
def weighManyUptoRow : OpenClaim := { program := "ytgjjedodbgimfaa", sum := "6f6417ade009ec5935bbeb5d8a5c6c0581dddf7b4fdf9fc22febfb1300df2a69", func := "tapestrier/tapestrierlaw11.WeighMany", spec := "weighMany", recurses := true, apart := false, narrowed := true }
def WeighManyUptoSaid : Prop := weighManyUptoRow.holds Try.pinned (OpenSpec.upto weighManySpec)

/-- 'tapestrierlaw11.WeighKinds', WHERE WHAT IT READS IS OF BULK AT MOST 1048576: true; the input reads as it did. -/
def weighKindsUptoRow : OpenClaim := { program := "ytgjjedodbgimfaa", sum := "6f6417ade009ec5935bbeb5d8a5c6c0581dddf7b4fdf9fc22febfb1300df2a69", func := "tapestrier/tapestrierlaw11.WeighKinds", spec := "weighKinds", recurses := true, apart := false, narrowed := true }
def WeighKindsUptoSaid : Prop := weighKindsUptoRow.holds Try.pinned (OpenSpec.upto weighKindsSpec)

/-- 'tapestrierlaw11.WeighLists', WHERE WHAT IT READS IS OF BULK AT MOST 1048576: true; the input reads as it did. -/
def weighListsUptoRow : OpenClaim := { program := "ytgjjedodbgimfaa", sum := "6f6417ade009ec5935bbeb5d8a5c6c0581dddf7b4fdf9fc22febfb1300df2a69", func := "tapestrier/tapestrierlaw11.WeighLists", spec := "weighLists", recurses := true, loops := true, apart := false, narrowed := true }
def WeighListsUptoSaid : Prop := weighListsUptoRow.holds Try.pinned (OpenSpec.upto weighListsSpec)

end Rows
end Go.Proofs.Ytgjjedodbgimfaa
