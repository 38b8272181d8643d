/-
  NARROWER THAN 'FOR EVERY INPUT', by the rows' own cells (each row's printed sentence says how): ValueWords: laid · ValueNumbers: laid · ValueOne: laid.
  DERIVED. THE GIVEN ROWS OF THIS SEAT. 3 by the template 'for every input the law returns true; each argument reads behind the call as it read before'; 0 by the template 'total and deterministic' (their statements: YtghjpefkeobfnabDoorTotals.lean).
  GIVEN WITH THE SEED: the statements are not yours to turn. If you find one false, say at which input.
  Laid BY PROGRAM, IN A SANDBOX (cutbox-rows.mjs): the forced cells as the released guide's own fill.sh prints them over the translation 85b15caa575d61fd… (all of the seat's roots in one cut). By AI agents, Wed Nov 11 2026. No macro, syntax, notation, axiom, sorry.
-/
import Derived.Test.YtghjpefkeobfnabDoorChecked
import GoSem.Claim
import GoSem.ClaimJoined
import GoSem.ClaimMapViews
import Derived.JoinedTies
import Derived.KernelRfl
namespace Go.Proofs.YtghjpefkeobfnabDoor
/- THE CELL 'sum', in the pinned program and in every row, IS THE sha256 OF THE DUMP (.gsa) THAT YtghjpefkeobfnabDoorProg.lean LOADS. Nothing in Lean hashes anything: it is a label: what it is worth is what the hold of that sum in a sandbox is worth. -/
noncomputable def Tryd.pinned : Pinned := { name := "ytghjpefkeobfnabdoor", sum := "85b15caa575d61fdfb76a2f3550d9972b650731a5b1c3fb983e734a4e7c7f2d8", checked := Tryd.checked }
namespace Rows
def none {H : Type} : Left H := { results := [], args := [] }

/- WHAT THE LISTED PACKAGE-LEVEL VARIABLES READ AS WHEN THE CALL BEGINS. Each datum BY PROGRAM (the guide's laid-datum.mjs) off the statement by which the dump's own 'gosem.cut.vars' lays the variable. In a bare row this is a premise. The card (YtghjpefkeobfnabDoorCards.lean) ties it to the program's text. -/
def laid_tapestrier_value_words {H : Type} : DataW H := .agg [.agg [.lit (.int .i64 (-1)), .lit (.string [105, 110, 104, 101, 114, 105, 116]), .agg [.lit (.int .i64 7), .lit (.int .i64 0)]], .agg [.lit (.int .i64 (-1)), .lit (.string [105, 110, 105, 116, 105, 97, 108]), .agg [.lit (.int .i64 8), .lit (.int .i64 0)]], .agg [.lit (.int .i64 (-1)), .lit (.string [117, 110, 115, 101, 116]), .agg [.lit (.int .i64 9), .lit (.int .i64 0)]], .agg [.lit (.int .i64 0), .lit (.string [98, 108, 97, 99, 107]), .agg [.lit (.int .i64 6), .lit (.int .i64 0)]], .agg [.lit (.int .i64 0), .lit (.string [119, 104, 105, 116, 101]), .agg [.lit (.int .i64 6), .lit (.int .i64 16777215)]], .agg [.lit (.int .i64 0), .lit (.string [114, 101, 100]), .agg [.lit (.int .i64 6), .lit (.int .i64 16711680)]], .agg [.lit (.int .i64 0), .lit (.string [103, 114, 101, 101, 110]), .agg [.lit (.int .i64 6), .lit (.int .i64 32768)]], .agg [.lit (.int .i64 0), .lit (.string [98, 108, 117, 101]), .agg [.lit (.int .i64 6), .lit (.int .i64 255)]], .agg [.lit (.int .i64 2), .lit (.string [108, 101, 102, 116]), .agg [.lit (.int .i64 1), .lit (.int .i64 0)]], .agg [.lit (.int .i64 2), .lit (.string [114, 105, 103, 104, 116]), .agg [.lit (.int .i64 1), .lit (.int .i64 1)]], .agg [.lit (.int .i64 2), .lit (.string [99, 101, 110, 116, 101, 114]), .agg [.lit (.int .i64 1), .lit (.int .i64 2)]], .agg [.lit (.int .i64 3), .lit (.string [110, 111, 110, 101]), .agg [.lit (.int .i64 1), .lit (.int .i64 0)]], .agg [.lit (.int .i64 3), .lit (.string [98, 108, 111, 99, 107]), .agg [.lit (.int .i64 1), .lit (.int .i64 1)]], .agg [.lit (.int .i64 3), .lit (.string [105, 110, 108, 105, 110, 101]), .agg [.lit (.int .i64 1), .lit (.int .i64 2)]], .agg [.lit (.int .i64 4), .lit (.string [97, 117, 116, 111]), .agg [.lit (.int .i64 1), .lit (.int .i64 0)]], .agg [.lit (.int .i64 7), .lit (.string [97, 117, 116, 111]), .agg [.lit (.int .i64 1), .lit (.int .i64 0)]]]
def laid_tapestrier_value_properties {H : Type} : DataW H := .agg [.agg [.lit (.string [99, 111, 108, 111, 114]), .lit (.bool true), .lit (.int .i64 0)], .agg [.lit (.string [102, 111, 110, 116, 45, 115, 105, 122, 101]), .lit (.bool true), .lit (.int .i64 16000)], .agg [.lit (.string [116, 101, 120, 116, 45, 97, 108, 105, 103, 110]), .lit (.bool true), .lit (.int .i64 0)], .agg [.lit (.string [100, 105, 115, 112, 108, 97, 121]), .lit (.bool false), .lit (.int .i64 2)], .agg [.lit (.string [119, 105, 100, 116, 104]), .lit (.bool false), .lit (.int .i64 (-1))], .agg [.lit (.string [109, 97, 114, 103, 105, 110]), .lit (.bool false), .lit (.int .i64 0)], .agg [.lit (.string [111, 112, 97, 99, 105, 116, 121]), .lit (.bool false), .lit (.int .i64 1000)], .agg [.lit (.string [122, 45, 105, 110, 100, 101, 120]), .lit (.bool false), .lit (.int .i64 1099511627776)]]

/-- 'tapestrierlaw7.ValueWords': WHATEVER THE INPUT: true; the input reads as it did. -/
def valueWordsSpec : ChangeSpec := { name := "valueWords", fn := fun _ => fun
  | [d] => { results := [.lit (.bool true)], args := [d] }
  | _ => none }
def valueWordsRow : OpenClaim := { program := "ytghjpefkeobfnabdoor", sum := "85b15caa575d61fdfb76a2f3550d9972b650731a5b1c3fb983e734a4e7c7f2d8", func := "tapestrier/tapestrierlaw7.ValueWords", spec := "valueWords", named := ["tapestrier/value.words"], apart := false, laid := [("tapestrier/value.words", laid_tapestrier_value_words)] }
def ValueWordsSaid : Prop := valueWordsRow.holds Tryd.pinned (OpenSpec.ofChange valueWordsSpec)

/-- ITS FALSE NEIGHBOUR: 'it returns false'. Refute it at one input. -/
def valueWordsWrong : ChangeSpec := { name := "valueWords", fn := fun _ => fun
  | [d] => { results := [.lit (.bool false)], args := [d] }
  | _ => none }
def ValueWordsWrongFalsely : Prop := valueWordsRow.holds Tryd.pinned (OpenSpec.ofChange valueWordsWrong)

/-- 'tapestrierlaw7.ValueNumbers': WHATEVER THE INPUT: true; the input reads as it did. -/
def valueNumbersSpec : ChangeSpec := { name := "valueNumbers", fn := fun _ => fun
  | [d1, d2] => { results := [.lit (.bool true)], args := [d1, d2] }
  | _ => none }
def valueNumbersRow : OpenClaim := { program := "ytghjpefkeobfnabdoor", sum := "85b15caa575d61fdfb76a2f3550d9972b650731a5b1c3fb983e734a4e7c7f2d8", func := "tapestrier/tapestrierlaw7.ValueNumbers", spec := "valueNumbers", named := ["tapestrier/value.words"], apart := false, laid := [("tapestrier/value.words", laid_tapestrier_value_words)] }
def ValueNumbersSaid : Prop := valueNumbersRow.holds Tryd.pinned (OpenSpec.ofChange valueNumbersSpec)

/-- ITS FALSE NEIGHBOUR: 'it returns false'. Refute it at one input. -/
def valueNumbersWrong : ChangeSpec := { name := "valueNumbers", fn := fun _ => fun
  | [d1, d2] => { results := [.lit (.bool false)], args := [d1, d2] }
  | _ => none }
def ValueNumbersWrongFalsely : Prop := valueNumbersRow.holds Tryd.pinned (OpenSpec.ofChange valueNumbersWrong)

/-- 'tapestrierlaw7.ValueOne': WHATEVER THE INPUT: true; the input reads as it did. -/
def valueOneSpec : ChangeSpec := { name := "valueOne", fn := fun _ => fun
  | [d] => { results := [.lit (.bool true)], args := [d] }
  | _ => none }
def valueOneRow : OpenClaim := { program := "ytghjpefkeobfnabdoor", sum := "85b15caa575d61fdfb76a2f3550d9972b650731a5b1c3fb983e734a4e7c7f2d8", func := "tapestrier/tapestrierlaw7.ValueOne", spec := "valueOne", named := ["tapestrier/value.words", "tapestrier/value.properties"], apart := false, laid := [("tapestrier/value.words", laid_tapestrier_value_words), ("tapestrier/value.properties", laid_tapestrier_value_properties)] }
def ValueOneSaid : Prop := valueOneRow.holds Tryd.pinned (OpenSpec.ofChange valueOneSpec)

/-- ITS FALSE NEIGHBOUR: 'it returns false'. Refute it at one input. -/
def valueOneWrong : ChangeSpec := { name := "valueOne", fn := fun _ => fun
  | [d] => { results := [.lit (.bool false)], args := [d] }
  | _ => none }
def ValueOneWrongFalsely : Prop := valueOneRow.holds Tryd.pinned (OpenSpec.ofChange valueOneWrong)

/- THE SECOND FORM. 'bulk': how many values and letters a reading holds, each counted each time it is reached (what is shared counts as often as it is met; a slice's spare places count too). A statement '..UptoSaid' is the law's where the arguments, and the package variables that the reading takes, are together of bulk at most 1048576: NARROWER than '..Said'. Prove '..Said' where nothing that the law and all that it calls make is longer than what came in: it says more and counts as full. Else prove '..UptoSaid'. A law counts once. -/
mutual
def uptoBulk {H : Type} : DataW H → Nat
  | .lit (.string bytes) => bytes.length + 1
  | .lit _ => 1
  | .nil => 1
  | .ptr d => uptoBulk d + 1
  | .slice elems spare => uptoBulkAll elems + uptoBulkAll spare + 1
  | .agg parts => uptoBulkAll parts + 1
  | .iface _ d => uptoBulk d + 1
  | .map entries => uptoBulkEntries entries + 1
  | .held _ => 1
def uptoBulkAll {H : Type} : List (DataW H) → Nat
  | [] => 0
  | d :: r => uptoBulk d + uptoBulkAll r
def uptoBulkEntries {H : Type} : List (Lit × DataW H) → Nat
  | [] => 0
  | x :: r => uptoBulkEntry x + uptoBulkEntries r
def uptoBulkEntry {H : Type} : Lit × DataW H → Nat
  | (.string bytes, d) => bytes.length + uptoBulk d + 1
  | (_, d) => uptoBulk d + 1
 end
def uptoSmall : (H : Type) → List (DataW H) → Bool := fun _ ds => decide (uptoBulkAll ds ≤ 1048576)
def OpenSpec.upto (s : _root_.Go.ChangeSpec) : _root_.Go.OpenSpec := { _root_.Go.OpenSpec.ofChange s with cond := some uptoSmall }

/-- 'tapestrierlaw7.ValueWords', WHERE WHAT IT READS IS OF BULK AT MOST 1048576: true; the input reads as it did. -/
def valueWordsUptoRow : OpenClaim := { program := "ytghjpefkeobfnabdoor", sum := "85b15caa575d61fdfb76a2f3550d9972b650731a5b1c3fb983e734a4e7c7f2d8", func := "tapestrier/tapestrierlaw7.ValueWords", spec := "valueWords", named := ["tapestrier/value.words"], apart := false, laid := [("tapestrier/value.words", laid_tapestrier_value_words)], narrowed := true }
def ValueWordsUptoSaid : Prop := valueWordsUptoRow.holds Tryd.pinned (OpenSpec.upto valueWordsSpec)

/-- 'tapestrierlaw7.ValueNumbers', WHERE WHAT IT READS IS OF BULK AT MOST 1048576: true; the input reads as it did. -/
def valueNumbersUptoRow : OpenClaim := { program := "ytghjpefkeobfnabdoor", sum := "85b15caa575d61fdfb76a2f3550d9972b650731a5b1c3fb983e734a4e7c7f2d8", func := "tapestrier/tapestrierlaw7.ValueNumbers", spec := "valueNumbers", named := ["tapestrier/value.words"], apart := false, laid := [("tapestrier/value.words", laid_tapestrier_value_words)], narrowed := true }
def ValueNumbersUptoSaid : Prop := valueNumbersUptoRow.holds Tryd.pinned (OpenSpec.upto valueNumbersSpec)

/-- 'tapestrierlaw7.ValueOne', WHERE WHAT IT READS IS OF BULK AT MOST 1048576: true; the input reads as it did. -/
def valueOneUptoRow : OpenClaim := { program := "ytghjpefkeobfnabdoor", sum := "85b15caa575d61fdfb76a2f3550d9972b650731a5b1c3fb983e734a4e7c7f2d8", func := "tapestrier/tapestrierlaw7.ValueOne", spec := "valueOne", named := ["tapestrier/value.words", "tapestrier/value.properties"], apart := false, laid := [("tapestrier/value.words", laid_tapestrier_value_words), ("tapestrier/value.properties", laid_tapestrier_value_properties)], narrowed := true }
def ValueOneUptoSaid : Prop := valueOneUptoRow.holds Tryd.pinned (OpenSpec.upto valueOneSpec)

end Rows
end Go.Proofs.YtghjpefkeobfnabDoor
