/-
  NARROWER THAN 'FOR EVERY INPUT', by the rows' own cells (each row's printed sentence says how): ValueParse: laid · ValueProps: laid · ValueSets: laid · ValueColors: laid · ValueWide: laid · ValueLengths: laid.
  DERIVED. THE GIVEN ROWS OF THIS SEAT. 6 by the template 'for every input the law returns true; each argument reads behind the call as it read before'; 0 by the template 'total and deterministic' (their statements: YtghjpefkeobfnaaDoorTotals.lean).
  GIVEN WITH THE SEED: the statements are not yours to turn. If you find one false, say at which input.
  Laid BY PROGRAM, IN A SANDBOX (cutbox-rows.mjs): the forced cells as the released guide's own fill.sh prints them over the translation db960726cc81f01c… (all of the seat's roots in one cut). By AI agents, Wed Nov 11 2026. No macro, syntax, notation, axiom, sorry.
-/
import Derived.Test.YtghjpefkeobfnaaDoorChecked
import GoSem.Claim
import GoSem.ClaimJoined
import GoSem.ClaimMapViews
import Derived.JoinedTies
import Derived.KernelRfl
namespace Go.Proofs.YtghjpefkeobfnaaDoor
/- THE CELL 'sum', in the pinned program and in every row, IS THE sha256 OF THE DUMP (.gsa) THAT YtghjpefkeobfnaaDoorProg.lean LOADS. Nothing in Lean hashes anything: it is a label: what it is worth is what the hold of that sum in a sandbox is worth. -/
noncomputable def Tryd.pinned : Pinned := { name := "ytghjpefkeobfnaadoor", sum := "db960726cc81f01c492a63e1ac287ee18885fea3cc35fefbe54926c21581c1d6", checked := Tryd.checked }
namespace Rows
def none {H : Type} : Left H := { results := [], args := [] }

/- WHAT THE LISTED PACKAGE-LEVEL VARIABLES READ AS WHEN THE CALL BEGINS. Each datum BY PROGRAM (the guide's laid-datum.mjs) off the statement by which the dump's own 'gosem.cut.vars' lays the variable. In a bare row this is a premise. The card (YtghjpefkeobfnaaDoorCards.lean) ties it to the program's text. -/
def laid_tapestrier_value_words {H : Type} : DataW H := .agg [.agg [.lit (.int .i64 (-1)), .lit (.string [105, 110, 104, 101, 114, 105, 116]), .agg [.lit (.int .i64 7), .lit (.int .i64 0)]], .agg [.lit (.int .i64 (-1)), .lit (.string [105, 110, 105, 116, 105, 97, 108]), .agg [.lit (.int .i64 8), .lit (.int .i64 0)]], .agg [.lit (.int .i64 (-1)), .lit (.string [117, 110, 115, 101, 116]), .agg [.lit (.int .i64 9), .lit (.int .i64 0)]], .agg [.lit (.int .i64 0), .lit (.string [98, 108, 97, 99, 107]), .agg [.lit (.int .i64 6), .lit (.int .i64 0)]], .agg [.lit (.int .i64 0), .lit (.string [119, 104, 105, 116, 101]), .agg [.lit (.int .i64 6), .lit (.int .i64 16777215)]], .agg [.lit (.int .i64 0), .lit (.string [114, 101, 100]), .agg [.lit (.int .i64 6), .lit (.int .i64 16711680)]], .agg [.lit (.int .i64 0), .lit (.string [103, 114, 101, 101, 110]), .agg [.lit (.int .i64 6), .lit (.int .i64 32768)]], .agg [.lit (.int .i64 0), .lit (.string [98, 108, 117, 101]), .agg [.lit (.int .i64 6), .lit (.int .i64 255)]], .agg [.lit (.int .i64 2), .lit (.string [108, 101, 102, 116]), .agg [.lit (.int .i64 1), .lit (.int .i64 0)]], .agg [.lit (.int .i64 2), .lit (.string [114, 105, 103, 104, 116]), .agg [.lit (.int .i64 1), .lit (.int .i64 1)]], .agg [.lit (.int .i64 2), .lit (.string [99, 101, 110, 116, 101, 114]), .agg [.lit (.int .i64 1), .lit (.int .i64 2)]], .agg [.lit (.int .i64 3), .lit (.string [110, 111, 110, 101]), .agg [.lit (.int .i64 1), .lit (.int .i64 0)]], .agg [.lit (.int .i64 3), .lit (.string [98, 108, 111, 99, 107]), .agg [.lit (.int .i64 1), .lit (.int .i64 1)]], .agg [.lit (.int .i64 3), .lit (.string [105, 110, 108, 105, 110, 101]), .agg [.lit (.int .i64 1), .lit (.int .i64 2)]], .agg [.lit (.int .i64 4), .lit (.string [97, 117, 116, 111]), .agg [.lit (.int .i64 1), .lit (.int .i64 0)]], .agg [.lit (.int .i64 7), .lit (.string [97, 117, 116, 111]), .agg [.lit (.int .i64 1), .lit (.int .i64 0)]]]
def laid_tapestrier_value_properties {H : Type} : DataW H := .agg [.agg [.lit (.string [99, 111, 108, 111, 114]), .lit (.bool true), .lit (.int .i64 0)], .agg [.lit (.string [102, 111, 110, 116, 45, 115, 105, 122, 101]), .lit (.bool true), .lit (.int .i64 16000)], .agg [.lit (.string [116, 101, 120, 116, 45, 97, 108, 105, 103, 110]), .lit (.bool true), .lit (.int .i64 0)], .agg [.lit (.string [100, 105, 115, 112, 108, 97, 121]), .lit (.bool false), .lit (.int .i64 2)], .agg [.lit (.string [119, 105, 100, 116, 104]), .lit (.bool false), .lit (.int .i64 (-1))], .agg [.lit (.string [109, 97, 114, 103, 105, 110]), .lit (.bool false), .lit (.int .i64 0)], .agg [.lit (.string [111, 112, 97, 99, 105, 116, 121]), .lit (.bool false), .lit (.int .i64 1000)], .agg [.lit (.string [122, 45, 105, 110, 100, 101, 120]), .lit (.bool false), .lit (.int .i64 1099511627776)]]

/-- 'tapestrierlaw7.ValueParse': WHATEVER THE INPUT: true; the input reads as it did. -/
def valueParseSpec : ChangeSpec := { name := "valueParse", fn := fun _ => fun
  | [d1, d2] => { results := [.lit (.bool true)], args := [d1, d2] }
  | _ => none }
def valueParseRow : OpenClaim := { program := "ytghjpefkeobfnaadoor", sum := "db960726cc81f01c492a63e1ac287ee18885fea3cc35fefbe54926c21581c1d6", func := "tapestrier/tapestrierlaw7.ValueParse", spec := "valueParse", named := ["tapestrier/value.words"], apart := false, laid := [("tapestrier/value.words", laid_tapestrier_value_words)] }
def ValueParseSaid : Prop := valueParseRow.holds Tryd.pinned (OpenSpec.ofChange valueParseSpec)

/-- ITS FALSE NEIGHBOUR: 'it returns false'. Refute it at one input. -/
def valueParseWrong : ChangeSpec := { name := "valueParse", fn := fun _ => fun
  | [d1, d2] => { results := [.lit (.bool false)], args := [d1, d2] }
  | _ => none }
def ValueParseWrongFalsely : Prop := valueParseRow.holds Tryd.pinned (OpenSpec.ofChange valueParseWrong)

/-- 'tapestrierlaw7.ValueProps': WHATEVER THE INPUT: true; the input reads as it did. -/
def valuePropsSpec : ChangeSpec := { name := "valueProps", fn := fun _ => fun
  | [d1, d2] => { results := [.lit (.bool true)], args := [d1, d2] }
  | _ => none }
def valuePropsRow : OpenClaim := { program := "ytghjpefkeobfnaadoor", sum := "db960726cc81f01c492a63e1ac287ee18885fea3cc35fefbe54926c21581c1d6", func := "tapestrier/tapestrierlaw7.ValueProps", spec := "valueProps", named := ["tapestrier/value.words", "tapestrier/value.properties"], apart := false, laid := [("tapestrier/value.words", laid_tapestrier_value_words), ("tapestrier/value.properties", laid_tapestrier_value_properties)] }
def ValuePropsSaid : Prop := valuePropsRow.holds Tryd.pinned (OpenSpec.ofChange valuePropsSpec)

/-- ITS FALSE NEIGHBOUR: 'it returns false'. Refute it at one input. -/
def valuePropsWrong : ChangeSpec := { name := "valueProps", fn := fun _ => fun
  | [d1, d2] => { results := [.lit (.bool false)], args := [d1, d2] }
  | _ => none }
def ValuePropsWrongFalsely : Prop := valuePropsRow.holds Tryd.pinned (OpenSpec.ofChange valuePropsWrong)

/-- 'tapestrierlaw7.ValueSets': WHATEVER THE INPUT: true; the input reads as it did. -/
def valueSetsSpec : ChangeSpec := { name := "valueSets", fn := fun _ => fun
  | [d] => { results := [.lit (.bool true)], args := [d] }
  | _ => none }
def valueSetsRow : OpenClaim := { program := "ytghjpefkeobfnaadoor", sum := "db960726cc81f01c492a63e1ac287ee18885fea3cc35fefbe54926c21581c1d6", func := "tapestrier/tapestrierlaw7.ValueSets", spec := "valueSets", named := ["tapestrier/value.words", "tapestrier/value.properties"], apart := false, laid := [("tapestrier/value.words", laid_tapestrier_value_words), ("tapestrier/value.properties", laid_tapestrier_value_properties)] }
def ValueSetsSaid : Prop := valueSetsRow.holds Tryd.pinned (OpenSpec.ofChange valueSetsSpec)

/-- ITS FALSE NEIGHBOUR: 'it returns false'. Refute it at one input. -/
def valueSetsWrong : ChangeSpec := { name := "valueSets", fn := fun _ => fun
  | [d] => { results := [.lit (.bool false)], args := [d] }
  | _ => none }
def ValueSetsWrongFalsely : Prop := valueSetsRow.holds Tryd.pinned (OpenSpec.ofChange valueSetsWrong)

/-- 'tapestrierlaw7.ValueColors': WHATEVER THE INPUT: true; the input reads as it did. -/
def valueColorsSpec : ChangeSpec := { name := "valueColors", fn := fun _ => fun
  | [d1, d2, d3] => { results := [.lit (.bool true)], args := [d1, d2, d3] }
  | _ => none }
def valueColorsRow : OpenClaim := { program := "ytghjpefkeobfnaadoor", sum := "db960726cc81f01c492a63e1ac287ee18885fea3cc35fefbe54926c21581c1d6", func := "tapestrier/tapestrierlaw7.ValueColors", spec := "valueColors", named := ["tapestrier/value.words"], apart := false, laid := [("tapestrier/value.words", laid_tapestrier_value_words)] }
def ValueColorsSaid : Prop := valueColorsRow.holds Tryd.pinned (OpenSpec.ofChange valueColorsSpec)

/-- ITS FALSE NEIGHBOUR: 'it returns false'. Refute it at one input. -/
def valueColorsWrong : ChangeSpec := { name := "valueColors", fn := fun _ => fun
  | [d1, d2, d3] => { results := [.lit (.bool false)], args := [d1, d2, d3] }
  | _ => none }
def ValueColorsWrongFalsely : Prop := valueColorsRow.holds Tryd.pinned (OpenSpec.ofChange valueColorsWrong)

/-- 'tapestrierlaw7.ValueWide': WHATEVER THE INPUT: true; the input reads as it did. -/
def valueWideSpec : ChangeSpec := { name := "valueWide", fn := fun _ => fun
  | [d1, d2, d3] => { results := [.lit (.bool true)], args := [d1, d2, d3] }
  | _ => none }
def valueWideRow : OpenClaim := { program := "ytghjpefkeobfnaadoor", sum := "db960726cc81f01c492a63e1ac287ee18885fea3cc35fefbe54926c21581c1d6", func := "tapestrier/tapestrierlaw7.ValueWide", spec := "valueWide", named := ["tapestrier/value.words"], apart := false, laid := [("tapestrier/value.words", laid_tapestrier_value_words)] }
def ValueWideSaid : Prop := valueWideRow.holds Tryd.pinned (OpenSpec.ofChange valueWideSpec)

/-- ITS FALSE NEIGHBOUR: 'it returns false'. Refute it at one input. -/
def valueWideWrong : ChangeSpec := { name := "valueWide", fn := fun _ => fun
  | [d1, d2, d3] => { results := [.lit (.bool false)], args := [d1, d2, d3] }
  | _ => none }
def ValueWideWrongFalsely : Prop := valueWideRow.holds Tryd.pinned (OpenSpec.ofChange valueWideWrong)

/-- 'tapestrierlaw7.ValueLengths': WHATEVER THE INPUT: true; the input reads as it did. -/
def valueLengthsSpec : ChangeSpec := { name := "valueLengths", fn := fun _ => fun
  | [d1, d2, d3] => { results := [.lit (.bool true)], args := [d1, d2, d3] }
  | _ => none }
def valueLengthsRow : OpenClaim := { program := "ytghjpefkeobfnaadoor", sum := "db960726cc81f01c492a63e1ac287ee18885fea3cc35fefbe54926c21581c1d6", func := "tapestrier/tapestrierlaw7.ValueLengths", spec := "valueLengths", named := ["tapestrier/value.words"], apart := false, laid := [("tapestrier/value.words", laid_tapestrier_value_words)] }
def ValueLengthsSaid : Prop := valueLengthsRow.holds Tryd.pinned (OpenSpec.ofChange valueLengthsSpec)

/-- ITS FALSE NEIGHBOUR: 'it returns false'. Refute it at one input. -/
def valueLengthsWrong : ChangeSpec := { name := "valueLengths", fn := fun _ => fun
  | [d1, d2, d3] => { results := [.lit (.bool false)], args := [d1, d2, d3] }
  | _ => none }
def ValueLengthsWrongFalsely : Prop := valueLengthsRow.holds Tryd.pinned (OpenSpec.ofChange valueLengthsWrong)

/- THE SECOND FORM. 'bulk': how many values and letters a reading holds, each counted each time it is reached (what is shared counts as often as it is met; a slice's spare places count too). A statement '..UptoSaid' is the law's where the arguments, and the package variables that the reading takes, are together of bulk at most 1048576: NARROWER than '..Said'. Prove '..Said' where nothing that the law and all that it calls make is longer than what came in: it says more and counts as full. Else prove '..UptoSaid'. A law counts once. -/
mutual
def uptoBulk {H : Type} : DataW H → Nat
  | .lit (.string bytes) => bytes.length + 1
  | .lit _ => 1
  | .nil => 1
  | .ptr d => uptoBulk d + 1
  | .slice elems spare => uptoBulkAll elems + uptoBulkAll spare + 1
  | .agg parts => uptoBulkAll parts + 1
  | .iface _ d => uptoBulk d + 1
  | .map entries => uptoBulkEntries entries + 1
  | .held _ => 1
def uptoBulkAll {H : Type} : List (DataW H) → Nat
  | [] => 0
  | d :: r => uptoBulk d + uptoBulkAll r
def uptoBulkEntries {H : Type} : List (Lit × DataW H) → Nat
  | [] => 0
  | x :: r => uptoBulkEntry x + uptoBulkEntries r
def uptoBulkEntry {H : Type} : Lit × DataW H → Nat
  | (.string bytes, d) => bytes.length + uptoBulk d + 1
  | (_, d) => uptoBulk d + 1
 end
def uptoSmall : (H : Type) → List (DataW H) → Bool := fun _ ds => decide (uptoBulkAll ds ≤ 1048576)
def OpenSpec.upto (s : _root_.Go.ChangeSpec) : _root_.Go.OpenSpec := { _root_.Go.OpenSpec.ofChange s with cond := some uptoSmall }

/-- 'tapestrierlaw7.ValueParse', WHERE WHAT IT READS IS OF BULK AT MOST 1048576: true; the input reads as it did. -/
def valueParseUptoRow : OpenClaim := { program := "ytghjpefkeobfnaadoor", sum := "db960726cc81f01c492a63e1ac287ee18885fea3cc35fefbe54926c21581c1d6", func := "tapestrier/tapestrierlaw7.ValueParse", spec := "valueParse", named := ["tapestrier/value.words"], apart := false, laid := [("tapestrier/value.words", laid_tapestrier_value_words)], narrowed := true }
def ValueParseUptoSaid : Prop := valueParseUptoRow.holds Tryd.pinned (OpenSpec.upto valueParseSpec)

/-- 'tapestrierlaw7.ValueProps', WHERE WHAT IT READS IS OF BULK AT MOST 1048576: true; the input reads as it did. -/
def valuePropsUptoRow : OpenClaim := { program := "ytghjpefkeobfnaadoor", sum := "db960726cc81f01c492a63e1ac287ee18885fea3cc35fefbe54926c21581c1d6", func := "tapestrier/tapestrierlaw7.ValueProps", spec := "valueProps", named := ["tapestrier/value.words", "tapestrier/value.properties"], apart := false, laid := [("tapestrier/value.words", laid_tapestrier_value_words), ("tapestrier/value.properties", laid_tapestrier_value_properties)], narrowed := true }
def ValuePropsUptoSaid : Prop := valuePropsUptoRow.holds Tryd.pinned (OpenSpec.upto valuePropsSpec)

/-- 'tapestrierlaw7.ValueSets', WHERE WHAT IT READS IS OF BULK AT MOST 1048576: true; the input reads as it did. -/
def valueSetsUptoRow : OpenClaim := { program := "ytghjpefkeobfnaadoor", sum := "db960726cc81f01c492a63e1ac287ee18885fea3cc35fefbe54926c21581c1d6", func := "tapestrier/tapestrierlaw7.ValueSets", spec := "valueSets", named := ["tapestrier/value.words", "tapestrier/value.properties"], apart := false, laid := [("tapestrier/value.words", laid_tapestrier_value_words), ("tapestrier/value.properties", laid_tapestrier_value_properties)], narrowed := true }
def ValueSetsUptoSaid : Prop := valueSetsUptoRow.holds Tryd.pinned (OpenSpec.upto valueSetsSpec)

/-- 'tapestrierlaw7.ValueColors', WHERE WHAT IT READS IS OF BULK AT MOST 1048576: true; the input reads as it did. -/
def valueColorsUptoRow : OpenClaim := { program := "ytghjpefkeobfnaadoor", sum := "db960726cc81f01c492a63e1ac287ee18885fea3cc35fefbe54926c21581c1d6", func := "tapestrier/tapestrierlaw7.ValueColors", spec := "valueColors", named := ["tapestrier/value.words"], apart := false, laid := [("tapestrier/value.words", laid_tapestrier_value_words)], narrowed := true }
def ValueColorsUptoSaid : Prop := valueColorsUptoRow.holds Tryd.pinned (OpenSpec.upto valueColorsSpec)

/-- 'tapestrierlaw7.ValueWide', WHERE WHAT IT READS IS OF BULK AT MOST 1048576: true; the input reads as it did. -/
def valueWideUptoRow : OpenClaim := { program := "ytghjpefkeobfnaadoor", sum := "db960726cc81f01c492a63e1ac287ee18885fea3cc35fefbe54926c21581c1d6", func := "tapestrier/tapestrierlaw7.ValueWide", spec := "valueWide", named := ["tapestrier/value.words"], apart := false, laid := [("tapestrier/value.words", laid_tapestrier_value_words)], narrowed := true }
def ValueWideUptoSaid : Prop := valueWideUptoRow.holds Tryd.pinned (OpenSpec.upto valueWideSpec)

/-- 'tapestrierlaw7.ValueLengths', WHERE WHAT IT READS IS OF BULK AT MOST 1048576: true; the input reads as it did. -/
def valueLengthsUptoRow : OpenClaim := { program := "ytghjpefkeobfnaadoor", sum := "db960726cc81f01c492a63e1ac287ee18885fea3cc35fefbe54926c21581c1d6", func := "tapestrier/tapestrierlaw7.ValueLengths", spec := "valueLengths", named := ["tapestrier/value.words"], apart := false, laid := [("tapestrier/value.words", laid_tapestrier_value_words)], narrowed := true }
def ValueLengthsUptoSaid : Prop := valueLengthsUptoRow.holds Tryd.pinned (OpenSpec.upto valueLengthsSpec)

end Rows
end Go.Proofs.YtghjpefkeobfnaaDoor
