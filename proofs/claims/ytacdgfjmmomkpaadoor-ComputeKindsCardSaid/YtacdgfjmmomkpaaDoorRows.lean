/-
  NARROWER THAN 'FOR EVERY INPUT', by the rows' own cells (each row's printed sentence says how): ComputeOf: laid · ComputeNone: laid · ComputeEms: laid · ComputeApart: laid · ComputeKinds: laid.
  DERIVED. THE GIVEN ROWS OF THIS SEAT. 5 by the template 'for every input the law returns true; each argument reads behind the call as it read before'; 0 by the template 'total and deterministic' (their statements: YtacdgfjmmomkpaaDoorTotals.lean).
  GIVEN WITH THE SEED: the statements are not yours to turn. If you find one false, say at which input.
  Laid BY PROGRAM, IN A SANDBOX (cutbox-rows.mjs): the forced cells as the released guide's own fill.sh prints them over the translation d54f1b941a71ed2f… (all of the seat's roots in one cut). By AI agents, Wed Nov 11 2026. No macro, syntax, notation, axiom, sorry.
-/
import Derived.Test.YtacdgfjmmomkpaaDoorChecked
import GoSem.Claim
import GoSem.ClaimJoined
import GoSem.ClaimMapViews
import Derived.JoinedTies
import Derived.KernelRfl
namespace Go.Proofs.YtacdgfjmmomkpaaDoor
/- THE CELL 'sum', in the pinned program and in every row, IS THE sha256 OF THE DUMP (.gsa) THAT YtacdgfjmmomkpaaDoorProg.lean LOADS. Nothing in Lean hashes anything: it is a label: what it is worth is what the hold of that sum in a sandbox is worth. -/
noncomputable def Tryd.pinned : Pinned := { name := "ytacdgfjmmomkpaadoor", sum := "d54f1b941a71ed2f3a12f4a1293c17ac06d4c2ee7bb7701ca2129b0eb3fb3d6b", checked := Tryd.checked }
namespace Rows
def none {H : Type} : Left H := { results := [], args := [] }

/- WHAT THE LISTED PACKAGE-LEVEL VARIABLES READ AS WHEN THE CALL BEGINS. Each datum BY PROGRAM (the guide's laid-datum.mjs) off the statement by which the dump's own 'gosem.cut.vars' lays the variable. In a bare row this is a premise. The card (YtacdgfjmmomkpaaDoorCards.lean) ties it to the program's text. -/
def laid_tapestrier_value_properties {H : Type} : DataW H := .agg [.agg [.lit (.string [99, 111, 108, 111, 114]), .lit (.bool true), .lit (.int .i64 0)], .agg [.lit (.string [102, 111, 110, 116, 45, 115, 105, 122, 101]), .lit (.bool true), .lit (.int .i64 16000)], .agg [.lit (.string [116, 101, 120, 116, 45, 97, 108, 105, 103, 110]), .lit (.bool true), .lit (.int .i64 0)], .agg [.lit (.string [100, 105, 115, 112, 108, 97, 121]), .lit (.bool false), .lit (.int .i64 2)], .agg [.lit (.string [119, 105, 100, 116, 104]), .lit (.bool false), .lit (.int .i64 (-1))], .agg [.lit (.string [109, 97, 114, 103, 105, 110]), .lit (.bool false), .lit (.int .i64 0)], .agg [.lit (.string [111, 112, 97, 99, 105, 116, 121]), .lit (.bool false), .lit (.int .i64 1000)], .agg [.lit (.string [122, 45, 105, 110, 100, 101, 120]), .lit (.bool false), .lit (.int .i64 1099511627776)]]

/-- 'tapestrierlaw16.ComputeOf': WHATEVER THE INPUT: true; the input reads as it did. -/
def computeOfSpec : ChangeSpec := { name := "computeOf", fn := fun _ => fun
  | [d1, d2, d3] => { results := [.lit (.bool true)], args := [d1, d2, d3] }
  | _ => none }
def computeOfRow : OpenClaim := { program := "ytacdgfjmmomkpaadoor", sum := "d54f1b941a71ed2f3a12f4a1293c17ac06d4c2ee7bb7701ca2129b0eb3fb3d6b", func := "tapestrier/tapestrierlaw16.ComputeOf", spec := "computeOf", named := ["tapestrier/value.properties"], apart := false, laid := [("tapestrier/value.properties", laid_tapestrier_value_properties)] }
def ComputeOfSaid : Prop := computeOfRow.holds Tryd.pinned (OpenSpec.ofChange computeOfSpec)

/-- ITS FALSE NEIGHBOUR: 'it returns false'. Refute it at one input. -/
def computeOfWrong : ChangeSpec := { name := "computeOf", fn := fun _ => fun
  | [d1, d2, d3] => { results := [.lit (.bool false)], args := [d1, d2, d3] }
  | _ => none }
def ComputeOfWrongFalsely : Prop := computeOfRow.holds Tryd.pinned (OpenSpec.ofChange computeOfWrong)

/-- 'tapestrierlaw16.ComputeNone': WHATEVER THE INPUT: true; the input reads as it did. -/
def computeNoneSpec : ChangeSpec := { name := "computeNone", fn := fun _ => fun
  | [d1, d2] => { results := [.lit (.bool true)], args := [d1, d2] }
  | _ => none }
def computeNoneRow : OpenClaim := { program := "ytacdgfjmmomkpaadoor", sum := "d54f1b941a71ed2f3a12f4a1293c17ac06d4c2ee7bb7701ca2129b0eb3fb3d6b", func := "tapestrier/tapestrierlaw16.ComputeNone", spec := "computeNone", named := ["tapestrier/value.properties"], apart := false, laid := [("tapestrier/value.properties", laid_tapestrier_value_properties)] }
def ComputeNoneSaid : Prop := computeNoneRow.holds Tryd.pinned (OpenSpec.ofChange computeNoneSpec)

/-- ITS FALSE NEIGHBOUR: 'it returns false'. Refute it at one input. -/
def computeNoneWrong : ChangeSpec := { name := "computeNone", fn := fun _ => fun
  | [d1, d2] => { results := [.lit (.bool false)], args := [d1, d2] }
  | _ => none }
def ComputeNoneWrongFalsely : Prop := computeNoneRow.holds Tryd.pinned (OpenSpec.ofChange computeNoneWrong)

/-- 'tapestrierlaw16.ComputeEms': WHATEVER THE INPUT: true; the input reads as it did. -/
def computeEmsSpec : ChangeSpec := { name := "computeEms", fn := fun _ => fun
  | [d1, d2, d3] => { results := [.lit (.bool true)], args := [d1, d2, d3] }
  | _ => none }
def computeEmsRow : OpenClaim := { program := "ytacdgfjmmomkpaadoor", sum := "d54f1b941a71ed2f3a12f4a1293c17ac06d4c2ee7bb7701ca2129b0eb3fb3d6b", func := "tapestrier/tapestrierlaw16.ComputeEms", spec := "computeEms", named := ["tapestrier/value.properties"], apart := false, laid := [("tapestrier/value.properties", laid_tapestrier_value_properties)] }
def ComputeEmsSaid : Prop := computeEmsRow.holds Tryd.pinned (OpenSpec.ofChange computeEmsSpec)

/-- ITS FALSE NEIGHBOUR: 'it returns false'. Refute it at one input. -/
def computeEmsWrong : ChangeSpec := { name := "computeEms", fn := fun _ => fun
  | [d1, d2, d3] => { results := [.lit (.bool false)], args := [d1, d2, d3] }
  | _ => none }
def ComputeEmsWrongFalsely : Prop := computeEmsRow.holds Tryd.pinned (OpenSpec.ofChange computeEmsWrong)

/-- 'tapestrierlaw16.ComputeApart': WHATEVER THE INPUT: true; the input reads as it did. -/
def computeApartSpec : ChangeSpec := { name := "computeApart", fn := fun _ => fun
  | [d1, d2, d3, d4] => { results := [.lit (.bool true)], args := [d1, d2, d3, d4] }
  | _ => none }
def computeApartRow : OpenClaim := { program := "ytacdgfjmmomkpaadoor", sum := "d54f1b941a71ed2f3a12f4a1293c17ac06d4c2ee7bb7701ca2129b0eb3fb3d6b", func := "tapestrier/tapestrierlaw16.ComputeApart", spec := "computeApart", named := ["tapestrier/value.properties"], apart := false, laid := [("tapestrier/value.properties", laid_tapestrier_value_properties)] }
def ComputeApartSaid : Prop := computeApartRow.holds Tryd.pinned (OpenSpec.ofChange computeApartSpec)

/-- ITS FALSE NEIGHBOUR: 'it returns false'. Refute it at one input. -/
def computeApartWrong : ChangeSpec := { name := "computeApart", fn := fun _ => fun
  | [d1, d2, d3, d4] => { results := [.lit (.bool false)], args := [d1, d2, d3, d4] }
  | _ => none }
def ComputeApartWrongFalsely : Prop := computeApartRow.holds Tryd.pinned (OpenSpec.ofChange computeApartWrong)

/-- 'tapestrierlaw16.ComputeKinds': WHATEVER THE INPUT: true; the input reads as it did. -/
def computeKindsSpec : ChangeSpec := { name := "computeKinds", fn := fun _ => fun
  | [d1, d2, d3] => { results := [.lit (.bool true)], args := [d1, d2, d3] }
  | _ => none }
def computeKindsRow : OpenClaim := { program := "ytacdgfjmmomkpaadoor", sum := "d54f1b941a71ed2f3a12f4a1293c17ac06d4c2ee7bb7701ca2129b0eb3fb3d6b", func := "tapestrier/tapestrierlaw16.ComputeKinds", spec := "computeKinds", named := ["tapestrier/value.properties"], apart := false, laid := [("tapestrier/value.properties", laid_tapestrier_value_properties)] }
def ComputeKindsSaid : Prop := computeKindsRow.holds Tryd.pinned (OpenSpec.ofChange computeKindsSpec)

/-- ITS FALSE NEIGHBOUR: 'it returns false'. Refute it at one input. -/
def computeKindsWrong : ChangeSpec := { name := "computeKinds", fn := fun _ => fun
  | [d1, d2, d3] => { results := [.lit (.bool false)], args := [d1, d2, d3] }
  | _ => none }
def ComputeKindsWrongFalsely : Prop := computeKindsRow.holds Tryd.pinned (OpenSpec.ofChange computeKindsWrong)

/- THE SECOND FORM. 'bulk': how many values and letters a reading holds, each counted each time it is reached (what is shared counts as often as it is met; a slice's spare places count too). A statement '..UptoSaid' is the law's where the arguments, and the package variables that the reading takes, are together of bulk at most 1048576: NARROWER than '..Said'. Prove '..Said' where nothing that the law and all that it calls make is longer than what came in: it says more and counts as full. Else prove '..UptoSaid'. A law counts once. -/
mutual
def uptoBulk {H : Type} : DataW H → Nat
  | .lit (.string bytes) => bytes.length + 1
  | .lit _ => 1
  | .nil => 1
  | .ptr d => uptoBulk d + 1
  | .slice elems spare => uptoBulkAll elems + uptoBulkAll spare + 1
  | .agg parts => uptoBulkAll parts + 1
  | .iface _ d => uptoBulk d + 1
  | .map entries => uptoBulkEntries entries + 1
  | .held _ => 1
def uptoBulkAll {H : Type} : List (DataW H) → Nat
  | [] => 0
  | d :: r => uptoBulk d + uptoBulkAll r
def uptoBulkEntries {H : Type} : List (Lit × DataW H) → Nat
  | [] => 0
  | x :: r => uptoBulkEntry x + uptoBulkEntries r
def uptoBulkEntry {H : Type} : Lit × DataW H → Nat
  | (.string bytes, d) => bytes.length + uptoBulk d + 1
  | (_, d) => uptoBulk d + 1
 end
def uptoSmall : (H : Type) → List (DataW H) → Bool := fun _ ds => decide (uptoBulkAll ds ≤ 1048576)
def OpenSpec.upto (s : _root_.Go.ChangeSpec) : _root_.Go.OpenSpec := { _root_.Go.OpenSpec.ofChange s with cond := some uptoSmall }

/-- 'tapestrierlaw16.ComputeOf', WHERE WHAT IT READS IS OF BULK AT MOST 1048576: true; the input reads as it did. -/
def computeOfUptoRow : OpenClaim := { program := "ytacdgfjmmomkpaadoor", sum := "d54f1b941a71ed2f3a12f4a1293c17ac06d4c2ee7bb7701ca2129b0eb3fb3d6b", func := "tapestrier/tapestrierlaw16.ComputeOf", spec := "computeOf", named := ["tapestrier/value.properties"], apart := false, laid := [("tapestrier/value.properties", laid_tapestrier_value_properties)], narrowed := true }
def ComputeOfUptoSaid : Prop := computeOfUptoRow.holds Tryd.pinned (OpenSpec.upto computeOfSpec)

/-- 'tapestrierlaw16.ComputeNone', WHERE WHAT IT READS IS OF BULK AT MOST 1048576: true; the input reads as it did. -/
def computeNoneUptoRow : OpenClaim := { program := "ytacdgfjmmomkpaadoor", sum := "d54f1b941a71ed2f3a12f4a1293c17ac06d4c2ee7bb7701ca2129b0eb3fb3d6b", func := "tapestrier/tapestrierlaw16.ComputeNone", spec := "computeNone", named := ["tapestrier/value.properties"], apart := false, laid := [("tapestrier/value.properties", laid_tapestrier_value_properties)], narrowed := true }
def ComputeNoneUptoSaid : Prop := computeNoneUptoRow.holds Tryd.pinned (OpenSpec.upto computeNoneSpec)

/-- 'tapestrierlaw16.ComputeEms', WHERE WHAT IT READS IS OF BULK AT MOST 1048576: true; the input reads as it did. -/
def computeEmsUptoRow : OpenClaim := { program := "ytacdgfjmmomkpaadoor", sum := "d54f1b941a71ed2f3a12f4a1293c17ac06d4c2ee7bb7701ca2129b0eb3fb3d6b", func := "tapestrier/tapestrierlaw16.ComputeEms", spec := "computeEms", named := ["tapestrier/value.properties"], apart := false, laid := [("tapestrier/value.properties", laid_tapestrier_value_properties)], narrowed := true }
def ComputeEmsUptoSaid : Prop := computeEmsUptoRow.holds Tryd.pinned (OpenSpec.upto computeEmsSpec)

/-- 'tapestrierlaw16.ComputeApart', WHERE WHAT IT READS IS OF BULK AT MOST 1048576: true; the input reads as it did. -/
def computeApartUptoRow : OpenClaim := { program := "ytacdgfjmmomkpaadoor", sum := "d54f1b941a71ed2f3a12f4a1293c17ac06d4c2ee7bb7701ca2129b0eb3fb3d6b", func := "tapestrier/tapestrierlaw16.ComputeApart", spec := "computeApart", named := ["tapestrier/value.properties"], apart := false, laid := [("tapestrier/value.properties", laid_tapestrier_value_properties)], narrowed := true }
def ComputeApartUptoSaid : Prop := computeApartUptoRow.holds Tryd.pinned (OpenSpec.upto computeApartSpec)

/-- 'tapestrierlaw16.ComputeKinds', WHERE WHAT IT READS IS OF BULK AT MOST 1048576: true; the input reads as it did. -/
def computeKindsUptoRow : OpenClaim := { program := "ytacdgfjmmomkpaadoor", sum := "d54f1b941a71ed2f3a12f4a1293c17ac06d4c2ee7bb7701ca2129b0eb3fb3d6b", func := "tapestrier/tapestrierlaw16.ComputeKinds", spec := "computeKinds", named := ["tapestrier/value.properties"], apart := false, laid := [("tapestrier/value.properties", laid_tapestrier_value_properties)], narrowed := true }
def ComputeKindsUptoSaid : Prop := computeKindsUptoRow.holds Tryd.pinned (OpenSpec.upto computeKindsSpec)

end Rows
end Go.Proofs.YtacdgfjmmomkpaaDoor
