/-
  NARROWER THAN 'FOR EVERY INPUT', by the rows' own cells (each row's printed sentence says how): BucketFor: loops · BucketFinds: loops.
  DERIVED. THE GIVEN ROWS OF THIS SEAT. 2 by the template 'for every input the law returns true; each argument reads behind the call as it read before'; 0 by the template 'total and deterministic' (their statements: YtmahjhcinooihaaGreatTotals.lean).
  GIVEN WITH THE SEED: the statements are not yours to turn. If you find one false, say at which input.
  Laid BY PROGRAM, IN A SANDBOX (cutbox-rows.mjs): the forced cells as the released guide's own fill.sh prints them over the translation fff5dec4cd4960d2… (all of the seat's roots in one cut). By AI agents, Wed Nov 11 2026. No macro, syntax, notation, axiom, sorry.
-/
import Derived.Test.YtmahjhcinooihaaGreatChecked
import GoSem.Claim
import GoSem.ClaimJoined
import GoSem.ClaimMapViews
import Derived.JoinedTies
import Derived.KernelRfl
namespace Go.Proofs.YtmahjhcinooihaaGreat
/- THE CELL 'sum', in the pinned program and in every row, IS THE sha256 OF THE DUMP (.gsa) THAT YtmahjhcinooihaaGreatProg.lean LOADS. Nothing in Lean hashes anything: it is a label: what it is worth is what the hold of that sum in a sandbox is worth. -/
noncomputable def Tryz.pinned : Pinned := { name := "ytmahjhcinooihaagreat", sum := "fff5dec4cd4960d24c7db5a46a9218b1d9a4a6b6474552cf4c9339df60fce635", checked := Tryz.checked }
namespace Rows
def none {H : Type} : Left H := { results := [], args := [] }

/-- 'tapestrierlaw12.BucketFor': WHATEVER THE INPUT: true; the input reads as it did. -/
def bucketForSpec : ChangeSpec := { name := "bucketFor", fn := fun _ => fun
  | [d1, d2] => { results := [.lit (.bool true)], args := [d1, d2] }
  | _ => none }
def bucketForRow : OpenClaim := { program := "ytmahjhcinooihaagreat", sum := "fff5dec4cd4960d24c7db5a46a9218b1d9a4a6b6474552cf4c9339df60fce635", func := "tapestrier/tapestrierlaw12.BucketFor", spec := "bucketFor", unfollowed := true, recurses := true, loops := true, plainKeys := false, apart := false }
def BucketForSaid : Prop := bucketForRow.holds Tryz.pinned (OpenSpec.ofChange bucketForSpec)

/-- ITS FALSE NEIGHBOUR: 'it returns false'. Refute it at one input. -/
def bucketForWrong : ChangeSpec := { name := "bucketFor", fn := fun _ => fun
  | [d1, d2] => { results := [.lit (.bool false)], args := [d1, d2] }
  | _ => none }
def BucketForWrongFalsely : Prop := bucketForRow.holds Tryz.pinned (OpenSpec.ofChange bucketForWrong)

/-- 'tapestrierlaw12.BucketFinds': WHATEVER THE INPUT: true; the input reads as it did. -/
def bucketFindsSpec : ChangeSpec := { name := "bucketFinds", fn := fun _ => fun
  | [d1, d2] => { results := [.lit (.bool true)], args := [d1, d2] }
  | _ => none }
def bucketFindsRow : OpenClaim := { program := "ytmahjhcinooihaagreat", sum := "fff5dec4cd4960d24c7db5a46a9218b1d9a4a6b6474552cf4c9339df60fce635", func := "tapestrier/tapestrierlaw12.BucketFinds", spec := "bucketFinds", unfollowed := true, recurses := true, loops := true, plainKeys := false, apart := false }
def BucketFindsSaid : Prop := bucketFindsRow.holds Tryz.pinned (OpenSpec.ofChange bucketFindsSpec)

/-- ITS FALSE NEIGHBOUR: 'it returns false'. Refute it at one input. -/
def bucketFindsWrong : ChangeSpec := { name := "bucketFinds", fn := fun _ => fun
  | [d1, d2] => { results := [.lit (.bool false)], args := [d1, d2] }
  | _ => none }
def BucketFindsWrongFalsely : Prop := bucketFindsRow.holds Tryz.pinned (OpenSpec.ofChange bucketFindsWrong)

/- THE SECOND FORM. 'bulk': how many values and letters a reading holds, each counted each time it is reached (what is shared counts as often as it is met; a slice's spare places count too). A statement '..UptoSaid' is the law's where the arguments, and the package variables that the reading takes, are together of bulk at most 1048576: NARROWER than '..Said'. Prove '..Said' where nothing that the law and all that it calls make is longer than what came in: it says more and counts as full. Else prove '..UptoSaid'. A law counts once. -/
mutual
def uptoBulk {H : Type} : DataW H → Nat
  | .lit (.string bytes) => bytes.length + 1
  | .lit _ => 1
  | .nil => 1
  | .ptr d => uptoBulk d + 1
  | .slice elems spare => uptoBulkAll elems + uptoBulkAll spare + 1
  | .agg parts => uptoBulkAll parts + 1
  | .iface _ d => uptoBulk d + 1
  | .map entries => uptoBulkEntries entries + 1
  | .held _ => 1
def uptoBulkAll {H : Type} : List (DataW H) → Nat
  | [] => 0
  | d :: r => uptoBulk d + uptoBulkAll r
def uptoBulkEntries {H : Type} : List (Lit × DataW H) → Nat
  | [] => 0
  | x :: r => uptoBulkEntry x + uptoBulkEntries r
def uptoBulkEntry {H : Type} : Lit × DataW H → Nat
  | (.string bytes, d) => bytes.length + uptoBulk d + 1
  | (_, d) => uptoBulk d + 1
 end
def uptoSmall : (H : Type) → List (DataW H) → Bool := fun _ ds => decide (uptoBulkAll ds ≤ 1048576)
def OpenSpec.upto (s : _root_.Go.ChangeSpec) : _root_.Go.OpenSpec := { _root_.Go.OpenSpec.ofChange s with cond := some uptoSmall }

/-- 'tapestrierlaw12.BucketFor', WHERE WHAT IT READS IS OF BULK AT MOST 1048576: true; the input reads as it did. -/
def bucketForUptoRow : OpenClaim := { program := "ytmahjhcinooihaagreat", sum := "fff5dec4cd4960d24c7db5a46a9218b1d9a4a6b6474552cf4c9339df60fce635", func := "tapestrier/tapestrierlaw12.BucketFor", spec := "bucketFor", unfollowed := true, recurses := true, loops := true, plainKeys := false, apart := false, narrowed := true }
def BucketForUptoSaid : Prop := bucketForUptoRow.holds Tryz.pinned (OpenSpec.upto bucketForSpec)

/-- 'tapestrierlaw12.BucketFinds', WHERE WHAT IT READS IS OF BULK AT MOST 1048576: true; the input reads as it did. -/
def bucketFindsUptoRow : OpenClaim := { program := "ytmahjhcinooihaagreat", sum := "fff5dec4cd4960d24c7db5a46a9218b1d9a4a6b6474552cf4c9339df60fce635", func := "tapestrier/tapestrierlaw12.BucketFinds", spec := "bucketFinds", unfollowed := true, recurses := true, loops := true, plainKeys := false, apart := false, narrowed := true }
def BucketFindsUptoSaid : Prop := bucketFindsUptoRow.holds Tryz.pinned (OpenSpec.upto bucketFindsSpec)

end Rows
end Go.Proofs.YtmahjhcinooihaaGreat
