/-
  No cell of these rows narrows 'for every input' (looked for: loops, veiled, ifaces, maps, wideKeys, modest, calm, conditions, laid).
  DERIVED. THE GIVEN ROWS OF THIS SEAT. 3 by the template 'for every input the law returns true; each argument reads behind the call as it read before'; 0 by the template 'total and deterministic' (their statements: YtbgcnmebmbjdjaaTotals.lean).
  GIVEN WITH THE SEED: the statements are not yours to turn. If you find one false, say at which input.
  Laid BY PROGRAM, IN A SANDBOX (cutbox-rows.mjs): the forced cells as the released guide's own fill.sh prints them over the translation b926b46360ec0f5e… (all of the seat's roots in one cut). By AI agents, Wed Nov 11 2026. No macro, syntax, notation, axiom, sorry.
-/
import Derived.Test.YtbgcnmebmbjdjaaChecked
import GoSem.Claim
import GoSem.ClaimJoined
import GoSem.ClaimMapViews
import Derived.JoinedTies
import Derived.KernelRfl
namespace Go.Proofs.Ytbgcnmebmbjdjaa
/- THE CELL 'sum', in the pinned program and in every row, IS THE sha256 OF THE DUMP (.gsa) THAT YtbgcnmebmbjdjaaProg.lean LOADS. Nothing in Lean hashes anything: it is a label: what it is worth is what the hold of that sum in a sandbox is worth. -/
noncomputable def Try.pinned : Pinned := { name := "ytbgcnmebmbjdjaa", sum := "b926b46360ec0f5e4c15ae4347056b6a72f04603b808c9120c8528940d1326a0", checked := Try.checked }
namespace Rows
def none {H : Type} : Left H := { results := [], args := [] }

/-- 'tapestrierlaw2.AtomPlays': WHATEVER THE INPUT: true; the input reads as it did. -/
def atomPlaysSpec : ChangeSpec := { name := "atomPlays", fn := fun _ => fun
  | [d1, d2] => { results := [.lit (.bool true)], args := [d1, d2] }
  | _ => none }
def atomPlaysRow : OpenClaim := { program := "ytbgcnmebmbjdjaa", sum := "b926b46360ec0f5e4c15ae4347056b6a72f04603b808c9120c8528940d1326a0", func := "tapestrier/tapestrierlaw2.AtomPlays", spec := "atomPlays", apart := false }
def AtomPlaysSaid : Prop := atomPlaysRow.holds Try.pinned (OpenSpec.ofChange atomPlaysSpec)

/-- ITS FALSE NEIGHBOUR: 'it returns false'. Refute it at one input. -/
def atomPlaysWrong : ChangeSpec := { name := "atomPlays", fn := fun _ => fun
  | [d1, d2] => { results := [.lit (.bool false)], args := [d1, d2] }
  | _ => none }
def AtomPlaysWrongFalsely : Prop := atomPlaysRow.holds Try.pinned (OpenSpec.ofChange atomPlaysWrong)

/-- 'tapestrierlaw2.AtomEach': WHATEVER THE INPUT: true; the input reads as it did. -/
def atomEachSpec : ChangeSpec := { name := "atomEach", fn := fun _ => fun
  | [d1, d2, d3] => { results := [.lit (.bool true)], args := [d1, d2, d3] }
  | _ => none }
def atomEachRow : OpenClaim := { program := "ytbgcnmebmbjdjaa", sum := "b926b46360ec0f5e4c15ae4347056b6a72f04603b808c9120c8528940d1326a0", func := "tapestrier/tapestrierlaw2.AtomEach", spec := "atomEach", apart := false }
def AtomEachSaid : Prop := atomEachRow.holds Try.pinned (OpenSpec.ofChange atomEachSpec)

/-- ITS FALSE NEIGHBOUR: 'it returns false'. Refute it at one input. -/
def atomEachWrong : ChangeSpec := { name := "atomEach", fn := fun _ => fun
  | [d1, d2, d3] => { results := [.lit (.bool false)], args := [d1, d2, d3] }
  | _ => none }
def AtomEachWrongFalsely : Prop := atomEachRow.holds Try.pinned (OpenSpec.ofChange atomEachWrong)

/-- 'tapestrierlaw2.AtomOrder': WHATEVER THE INPUT: true; the input reads as it did. -/
def atomOrderSpec : ChangeSpec := { name := "atomOrder", fn := fun _ => fun
  | [d] => { results := [.lit (.bool true)], args := [d] }
  | _ => none }
def atomOrderRow : OpenClaim := { program := "ytbgcnmebmbjdjaa", sum := "b926b46360ec0f5e4c15ae4347056b6a72f04603b808c9120c8528940d1326a0", func := "tapestrier/tapestrierlaw2.AtomOrder", spec := "atomOrder", apart := false }
def AtomOrderSaid : Prop := atomOrderRow.holds Try.pinned (OpenSpec.ofChange atomOrderSpec)

/-- ITS FALSE NEIGHBOUR: 'it returns false'. Refute it at one input. -/
def atomOrderWrong : ChangeSpec := { name := "atomOrder", fn := fun _ => fun
  | [d] => { results := [.lit (.bool false)], args := [d] }
  | _ => none }
def AtomOrderWrongFalsely : Prop := atomOrderRow.holds Try.pinned (OpenSpec.ofChange atomOrderWrong)

/- THE SECOND FORM. 'bulk': how many values and letters a reading holds, each counted each time it is reached (what is shared counts as often as it is met; a slice's spare places count too). A statement '..UptoSaid' is the law's where the arguments, and the package variables that the reading takes, are together of bulk at most 1048576: NARROWER than '..Said'. Prove '..Said' where nothing that the law and all that it calls make is longer than what came in: it says more and counts as full. Else prove '..UptoSaid'. A law counts once. -/
mutual
def uptoBulk {H : Type} : DataW H → Nat
  | .lit (.string bytes) => bytes.length + 1
  | .lit _ => 1
  | .nil => 1
  | .ptr d => uptoBulk d + 1
  | .slice elems spare => uptoBulkAll elems + uptoBulkAll spare + 1
  | .agg parts => uptoBulkAll parts + 1
  | .iface _ d => uptoBulk d + 1
  | .map entries => uptoBulkEntries entries + 1
  | .held _ => 1
def uptoBulkAll {H : Type} : List (DataW H) → Nat
  | [] => 0
  | d :: r => uptoBulk d + uptoBulkAll r
def uptoBulkEntries {H : Type} : List (Lit × DataW H) → Nat
  | [] => 0
  | x :: r => uptoBulkEntry x + uptoBulkEntries r
def uptoBulkEntry {H : Type} : Lit × DataW H → Nat
  | (.string bytes, d) => bytes.length + uptoBulk d + 1
  | (_, d) => uptoBulk d + 1
 end
def uptoSmall : (H : Type) → List (DataW H) → Bool := fun _ ds => decide (uptoBulkAll ds ≤ 1048576)
def OpenSpec.upto (s : _root_.Go.ChangeSpec) : _root_.Go.OpenSpec := { _root_.Go.OpenSpec.ofChange s with cond := some uptoSmall }

/-- 'tapestrierlaw2.AtomPlays', WHERE WHAT IT READS IS OF BULK AT MOST 1048576: true; the input reads as it did. -/
def atomPlaysUptoRow : OpenClaim := { program := "ytbgcnmebmbjdjaa", sum := "b926b46360ec0f5e4c15ae4347056b6a72f04603b808c9120c8528940d1326a0", func := "tapestrier/tapestrierlaw2.AtomPlays", spec := "atomPlays", apart := false, narrowed := true }
def AtomPlaysUptoSaid : Prop := atomPlaysUptoRow.holds Try.pinned (OpenSpec.upto atomPlaysSpec)

/-- 'tapestrierlaw2.AtomEach', WHERE WHAT IT READS IS OF BULK AT MOST 1048576: true; the input reads as it did. -/
def atomEachUptoRow : OpenClaim := { program := "ytbgcnmebmbjdjaa", sum := "b926b46360ec0f5e4c15ae4347056b6a72f04603b808c9120c8528940d1326a0", func := "tapestrier/tapestrierlaw2.AtomEach", spec := "atomEach", apart := false, narrowed := true }
def AtomEachUptoSaid : Prop := atomEachUptoRow.holds Try.pinned (OpenSpec.upto atomEachSpec)

/-- 'tapestrierlaw2.AtomOrder', WHERE WHAT IT READS IS OF BULK AT MOST 1048576: true; the input reads as it did. -/
def atomOrderUptoRow : OpenClaim := { program := "ytbgcnmebmbjdjaa", sum := "b926b46360ec0f5e4c15ae4347056b6a72f04603b808c9120c8528940d1326a0", func := "tapestrier/tapestrierlaw2.AtomOrder", spec := "atomOrder", apart := false, narrowed := true }
def AtomOrderUptoSaid : Prop := atomOrderUptoRow.holds Try.pinned (OpenSpec.upto atomOrderSpec)

end Rows
end Go.Proofs.Ytbgcnmebmbjdjaa
