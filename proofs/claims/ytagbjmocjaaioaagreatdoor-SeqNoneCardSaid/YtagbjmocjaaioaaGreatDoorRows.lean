/-
  NARROWER THAN 'FOR EVERY INPUT', by the rows' own cells (each row's printed sentence says how): SeqSpec: laid · SeqRun: loops, laid · SeqParent: loops, laid · SeqMore: loops, laid · SeqNone: laid.
  DERIVED. THE GIVEN ROWS OF THIS SEAT. 5 by the template 'for every input the law returns true; each argument reads behind the call as it read before'; 0 by the template 'total and deterministic' (their statements: YtagbjmocjaaioaaGreatDoorTotals.lean).
  GIVEN WITH THE SEED: the statements are not yours to turn. If you find one false, say at which input.
  Laid BY PROGRAM, IN A SANDBOX (cutbox-rows.mjs): the forced cells as the released guide's own fill.sh prints them over the translation cf8e5d2cbd28802b… (all of the seat's roots in one cut). By AI agents, Wed Nov 11 2026. No macro, syntax, notation, axiom, sorry.
-/
import Derived.Test.YtagbjmocjaaioaaGreatDoorChecked
import GoSem.PinnedTables
import GoSem.Claim
import GoSem.ClaimJoined
import GoSem.ClaimMapViews
import Derived.JoinedTies
import Derived.KernelRfl
namespace Go.Proofs.YtagbjmocjaaioaaGreatDoor
/- THE CELL 'sum', in the pinned program and in every row, IS THE sha256 OF THE DUMP (.gsa) THAT YtagbjmocjaaioaaGreatDoorProg.lean LOADS. Nothing in Lean hashes anything: it is a label: what it is worth is what the hold of that sum in a sandbox is worth. -/
noncomputable def Tryz.pinned : Pinned := { name := "ytagbjmocjaaioaagreatdoor", sum := "cf8e5d2cbd28802bebdef7aeb81b10f542c6f140fbc0a65dc75d53eb8a6684a0", checked := Tryz.checked }
namespace Rows
def none {H : Type} : Left H := { results := [], args := [] }

/- WHAT THE LISTED PACKAGE-LEVEL VARIABLES READ AS WHEN THE CALL BEGINS. Each datum BY PROGRAM (the guide's laid-datum.mjs) off the statement by which the dump's own 'gosem.cut.vars' lays the variable. In a bare row this is a premise. The card (YtagbjmocjaaioaaGreatDoorCards.lean) ties it to the program's text. -/
def laid_unicode_utf8_acceptRanges {H : Type} : DataW H := .agg [.agg [.lit (.int .u8 128), .lit (.int .u8 191)], .agg [.lit (.int .u8 160), .lit (.int .u8 191)], .agg [.lit (.int .u8 128), .lit (.int .u8 159)], .agg [.lit (.int .u8 144), .lit (.int .u8 191)], .agg [.lit (.int .u8 128), .lit (.int .u8 143)], .agg [.lit (.int .u8 0), .lit (.int .u8 0)], .agg [.lit (.int .u8 0), .lit (.int .u8 0)], .agg [.lit (.int .u8 0), .lit (.int .u8 0)], .agg [.lit (.int .u8 0), .lit (.int .u8 0)], .agg [.lit (.int .u8 0), .lit (.int .u8 0)], .agg [.lit (.int .u8 0), .lit (.int .u8 0)], .agg [.lit (.int .u8 0), .lit (.int .u8 0)], .agg [.lit (.int .u8 0), .lit (.int .u8 0)], .agg [.lit (.int .u8 0), .lit (.int .u8 0)], .agg [.lit (.int .u8 0), .lit (.int .u8 0)], .agg [.lit (.int .u8 0), .lit (.int .u8 0)]]
def laid_tapestrier_value_words {H : Type} : DataW H := .agg [.agg [.lit (.int .i64 (-1)), .lit (.string [105, 110, 104, 101, 114, 105, 116]), .agg [.lit (.int .i64 7), .lit (.int .i64 0)]], .agg [.lit (.int .i64 (-1)), .lit (.string [105, 110, 105, 116, 105, 97, 108]), .agg [.lit (.int .i64 8), .lit (.int .i64 0)]], .agg [.lit (.int .i64 (-1)), .lit (.string [117, 110, 115, 101, 116]), .agg [.lit (.int .i64 9), .lit (.int .i64 0)]], .agg [.lit (.int .i64 0), .lit (.string [98, 108, 97, 99, 107]), .agg [.lit (.int .i64 6), .lit (.int .i64 0)]], .agg [.lit (.int .i64 0), .lit (.string [119, 104, 105, 116, 101]), .agg [.lit (.int .i64 6), .lit (.int .i64 16777215)]], .agg [.lit (.int .i64 0), .lit (.string [114, 101, 100]), .agg [.lit (.int .i64 6), .lit (.int .i64 16711680)]], .agg [.lit (.int .i64 0), .lit (.string [103, 114, 101, 101, 110]), .agg [.lit (.int .i64 6), .lit (.int .i64 32768)]], .agg [.lit (.int .i64 0), .lit (.string [98, 108, 117, 101]), .agg [.lit (.int .i64 6), .lit (.int .i64 255)]], .agg [.lit (.int .i64 2), .lit (.string [108, 101, 102, 116]), .agg [.lit (.int .i64 1), .lit (.int .i64 0)]], .agg [.lit (.int .i64 2), .lit (.string [114, 105, 103, 104, 116]), .agg [.lit (.int .i64 1), .lit (.int .i64 1)]], .agg [.lit (.int .i64 2), .lit (.string [99, 101, 110, 116, 101, 114]), .agg [.lit (.int .i64 1), .lit (.int .i64 2)]], .agg [.lit (.int .i64 3), .lit (.string [110, 111, 110, 101]), .agg [.lit (.int .i64 1), .lit (.int .i64 0)]], .agg [.lit (.int .i64 3), .lit (.string [98, 108, 111, 99, 107]), .agg [.lit (.int .i64 1), .lit (.int .i64 1)]], .agg [.lit (.int .i64 3), .lit (.string [105, 110, 108, 105, 110, 101]), .agg [.lit (.int .i64 1), .lit (.int .i64 2)]], .agg [.lit (.int .i64 4), .lit (.string [97, 117, 116, 111]), .agg [.lit (.int .i64 1), .lit (.int .i64 0)]], .agg [.lit (.int .i64 7), .lit (.string [97, 117, 116, 111]), .agg [.lit (.int .i64 1), .lit (.int .i64 0)]]]
def laid_tapestrier_value_properties {H : Type} : DataW H := .agg [.agg [.lit (.string [99, 111, 108, 111, 114]), .lit (.bool true), .lit (.int .i64 0)], .agg [.lit (.string [102, 111, 110, 116, 45, 115, 105, 122, 101]), .lit (.bool true), .lit (.int .i64 16000)], .agg [.lit (.string [116, 101, 120, 116, 45, 97, 108, 105, 103, 110]), .lit (.bool true), .lit (.int .i64 0)], .agg [.lit (.string [100, 105, 115, 112, 108, 97, 121]), .lit (.bool false), .lit (.int .i64 2)], .agg [.lit (.string [119, 105, 100, 116, 104]), .lit (.bool false), .lit (.int .i64 (-1))], .agg [.lit (.string [109, 97, 114, 103, 105, 110]), .lit (.bool false), .lit (.int .i64 0)], .agg [.lit (.string [111, 112, 97, 99, 105, 116, 121]), .lit (.bool false), .lit (.int .i64 1000)], .agg [.lit (.string [122, 45, 105, 110, 100, 101, 120]), .lit (.bool false), .lit (.int .i64 1099511627776)]]
def laid_tapestrier_tok_signs {H : Type} : DataW H := .agg [.agg [.lit (.int .i64 58), .lit (.int .i64 11)], .agg [.lit (.int .i64 59), .lit (.int .i64 12)], .agg [.lit (.int .i64 44), .lit (.int .i64 13)], .agg [.lit (.int .i64 123), .lit (.int .i64 14)], .agg [.lit (.int .i64 125), .lit (.int .i64 15)], .agg [.lit (.int .i64 40), .lit (.int .i64 16)], .agg [.lit (.int .i64 41), .lit (.int .i64 17)], .agg [.lit (.int .i64 91), .lit (.int .i64 18)], .agg [.lit (.int .i64 93), .lit (.int .i64 19)]]
def laid_tapestrier_sel_operators {H : Type} : DataW H := .agg [.agg [.lit (.int .i64 126), .lit (.int .i64 2)], .agg [.lit (.int .i64 124), .lit (.int .i64 3)], .agg [.lit (.int .i64 94), .lit (.int .i64 4)], .agg [.lit (.int .i64 36), .lit (.int .i64 5)], .agg [.lit (.int .i64 42), .lit (.int .i64 6)]]
/-- One of Go's own tables, pinned by name: the form's constant. -/
def laid_unicode_utf8_first : DataW Unit := Go.Pinned.utf8First

/-- 'tapestrierlaw17.SeqSpec': WHATEVER THE INPUT: true; the input reads as it did. -/
def seqSpecSpec : ChangeSpec := { name := "seqSpec", fn := fun _ => fun
  | [d1, d2] => { results := [.lit (.bool true)], args := [d1, d2] }
  | _ => none }
def seqSpecRow : OpenClaim := { program := "ytagbjmocjaaioaagreatdoor", sum := "cf8e5d2cbd28802bebdef7aeb81b10f542c6f140fbc0a65dc75d53eb8a6684a0", func := "tapestrier/tapestrierlaw17.SeqSpec", spec := "seqSpec", inPlace := ["internal/bytealg.IndexByteString", "internal/bytealg.IndexString"], unfollowed := true, recurses := true, named := ["unicode/utf8.first", "unicode/utf8.acceptRanges", "internal/bytealg.MaxLen", "tapestrier/tok.signs", "tapestrier/sel.operators", "tapestrier/value.properties", "tapestrier/value.words"], plainKeys := false, apart := false, laid := [("unicode/utf8.acceptRanges", laid_unicode_utf8_acceptRanges), ("tapestrier/value.words", laid_tapestrier_value_words), ("tapestrier/value.properties", laid_tapestrier_value_properties), ("tapestrier/tok.signs", laid_tapestrier_tok_signs), ("tapestrier/sel.operators", laid_tapestrier_sel_operators), ("unicode/utf8.first", laid_unicode_utf8_first)] }
def SeqSpecSaid : Prop := seqSpecRow.holds Tryz.pinned (OpenSpec.ofChange seqSpecSpec)

/-- ITS FALSE NEIGHBOUR: 'it returns false'. Refute it at one input. -/
def seqSpecWrong : ChangeSpec := { name := "seqSpec", fn := fun _ => fun
  | [d1, d2] => { results := [.lit (.bool false)], args := [d1, d2] }
  | _ => none }
def SeqSpecWrongFalsely : Prop := seqSpecRow.holds Tryz.pinned (OpenSpec.ofChange seqSpecWrong)

/-- 'tapestrierlaw17.SeqRun': WHATEVER THE INPUT: true; the input reads as it did. -/
def seqRunSpec : ChangeSpec := { name := "seqRun", fn := fun _ => fun
  | [d1, d2] => { results := [.lit (.bool true)], args := [d1, d2] }
  | _ => none }
def seqRunRow : OpenClaim := { program := "ytagbjmocjaaioaagreatdoor", sum := "cf8e5d2cbd28802bebdef7aeb81b10f542c6f140fbc0a65dc75d53eb8a6684a0", func := "tapestrier/tapestrierlaw17.SeqRun", spec := "seqRun", inPlace := ["internal/bytealg.IndexByteString", "internal/bytealg.IndexString"], unfollowed := true, recurses := true, named := ["unicode/utf8.first", "unicode/utf8.acceptRanges", "internal/bytealg.MaxLen", "tapestrier/tok.signs", "tapestrier/sel.operators", "tapestrier/value.properties", "tapestrier/value.words"], loops := true, plainKeys := false, apart := false, laid := [("unicode/utf8.acceptRanges", laid_unicode_utf8_acceptRanges), ("tapestrier/value.words", laid_tapestrier_value_words), ("tapestrier/value.properties", laid_tapestrier_value_properties), ("tapestrier/tok.signs", laid_tapestrier_tok_signs), ("tapestrier/sel.operators", laid_tapestrier_sel_operators), ("unicode/utf8.first", laid_unicode_utf8_first)] }
def SeqRunSaid : Prop := seqRunRow.holds Tryz.pinned (OpenSpec.ofChange seqRunSpec)

/-- ITS FALSE NEIGHBOUR: 'it returns false'. Refute it at one input. -/
def seqRunWrong : ChangeSpec := { name := "seqRun", fn := fun _ => fun
  | [d1, d2] => { results := [.lit (.bool false)], args := [d1, d2] }
  | _ => none }
def SeqRunWrongFalsely : Prop := seqRunRow.holds Tryz.pinned (OpenSpec.ofChange seqRunWrong)

/-- 'tapestrierlaw17.SeqParent': WHATEVER THE INPUT: true; the input reads as it did. -/
def seqParentSpec : ChangeSpec := { name := "seqParent", fn := fun _ => fun
  | [d1, d2] => { results := [.lit (.bool true)], args := [d1, d2] }
  | _ => none }
def seqParentRow : OpenClaim := { program := "ytagbjmocjaaioaagreatdoor", sum := "cf8e5d2cbd28802bebdef7aeb81b10f542c6f140fbc0a65dc75d53eb8a6684a0", func := "tapestrier/tapestrierlaw17.SeqParent", spec := "seqParent", inPlace := ["internal/bytealg.IndexByteString", "internal/bytealg.IndexString"], unfollowed := true, recurses := true, named := ["unicode/utf8.first", "unicode/utf8.acceptRanges", "internal/bytealg.MaxLen", "tapestrier/tok.signs", "tapestrier/sel.operators", "tapestrier/value.properties", "tapestrier/value.words"], loops := true, plainKeys := false, apart := false, laid := [("unicode/utf8.acceptRanges", laid_unicode_utf8_acceptRanges), ("tapestrier/value.words", laid_tapestrier_value_words), ("tapestrier/value.properties", laid_tapestrier_value_properties), ("tapestrier/tok.signs", laid_tapestrier_tok_signs), ("tapestrier/sel.operators", laid_tapestrier_sel_operators), ("unicode/utf8.first", laid_unicode_utf8_first)] }
def SeqParentSaid : Prop := seqParentRow.holds Tryz.pinned (OpenSpec.ofChange seqParentSpec)

/-- ITS FALSE NEIGHBOUR: 'it returns false'. Refute it at one input. -/
def seqParentWrong : ChangeSpec := { name := "seqParent", fn := fun _ => fun
  | [d1, d2] => { results := [.lit (.bool false)], args := [d1, d2] }
  | _ => none }
def SeqParentWrongFalsely : Prop := seqParentRow.holds Tryz.pinned (OpenSpec.ofChange seqParentWrong)

/-- 'tapestrierlaw17.SeqMore': WHATEVER THE INPUT: true; the input reads as it did. -/
def seqMoreSpec : ChangeSpec := { name := "seqMore", fn := fun _ => fun
  | [d1, d2] => { results := [.lit (.bool true)], args := [d1, d2] }
  | _ => none }
def seqMoreRow : OpenClaim := { program := "ytagbjmocjaaioaagreatdoor", sum := "cf8e5d2cbd28802bebdef7aeb81b10f542c6f140fbc0a65dc75d53eb8a6684a0", func := "tapestrier/tapestrierlaw17.SeqMore", spec := "seqMore", inPlace := ["internal/bytealg.IndexByteString", "internal/bytealg.IndexString"], unfollowed := true, recurses := true, named := ["unicode/utf8.first", "unicode/utf8.acceptRanges", "internal/bytealg.MaxLen", "tapestrier/tok.signs", "tapestrier/sel.operators", "tapestrier/value.properties", "tapestrier/value.words"], loops := true, plainKeys := false, apart := false, laid := [("unicode/utf8.acceptRanges", laid_unicode_utf8_acceptRanges), ("tapestrier/value.words", laid_tapestrier_value_words), ("tapestrier/value.properties", laid_tapestrier_value_properties), ("tapestrier/tok.signs", laid_tapestrier_tok_signs), ("tapestrier/sel.operators", laid_tapestrier_sel_operators), ("unicode/utf8.first", laid_unicode_utf8_first)] }
def SeqMoreSaid : Prop := seqMoreRow.holds Tryz.pinned (OpenSpec.ofChange seqMoreSpec)

/-- ITS FALSE NEIGHBOUR: 'it returns false'. Refute it at one input. -/
def seqMoreWrong : ChangeSpec := { name := "seqMore", fn := fun _ => fun
  | [d1, d2] => { results := [.lit (.bool false)], args := [d1, d2] }
  | _ => none }
def SeqMoreWrongFalsely : Prop := seqMoreRow.holds Tryz.pinned (OpenSpec.ofChange seqMoreWrong)

/-- 'tapestrierlaw17.SeqNone': WHATEVER THE INPUT: true; the input reads as it did. -/
def seqNoneSpec : ChangeSpec := { name := "seqNone", fn := fun _ => fun
  | [d] => { results := [.lit (.bool true)], args := [d] }
  | _ => none }
def seqNoneRow : OpenClaim := { program := "ytagbjmocjaaioaagreatdoor", sum := "cf8e5d2cbd28802bebdef7aeb81b10f542c6f140fbc0a65dc75d53eb8a6684a0", func := "tapestrier/tapestrierlaw17.SeqNone", spec := "seqNone", inPlace := ["internal/bytealg.IndexByteString", "internal/bytealg.IndexString"], unfollowed := true, recurses := true, named := ["unicode/utf8.first", "unicode/utf8.acceptRanges", "internal/bytealg.MaxLen", "tapestrier/tok.signs", "tapestrier/sel.operators", "tapestrier/value.properties", "tapestrier/value.words"], plainKeys := false, apart := false, laid := [("unicode/utf8.acceptRanges", laid_unicode_utf8_acceptRanges), ("tapestrier/value.words", laid_tapestrier_value_words), ("tapestrier/value.properties", laid_tapestrier_value_properties), ("tapestrier/tok.signs", laid_tapestrier_tok_signs), ("tapestrier/sel.operators", laid_tapestrier_sel_operators), ("unicode/utf8.first", laid_unicode_utf8_first)] }
def SeqNoneSaid : Prop := seqNoneRow.holds Tryz.pinned (OpenSpec.ofChange seqNoneSpec)

/-- ITS FALSE NEIGHBOUR: 'it returns false'. Refute it at one input. -/
def seqNoneWrong : ChangeSpec := { name := "seqNone", fn := fun _ => fun
  | [d] => { results := [.lit (.bool false)], args := [d] }
  | _ => none }
def SeqNoneWrongFalsely : Prop := seqNoneRow.holds Tryz.pinned (OpenSpec.ofChange seqNoneWrong)

/- THE SECOND FORM. 'bulk': how many values and letters a reading holds, each counted each time it is reached (what is shared counts as often as it is met; a slice's spare places count too). A statement '..UptoSaid' is the law's where the arguments, and the package variables that the reading takes, are together of bulk at most 1048576: NARROWER than '..Said'. Prove '..Said' where nothing that the law and all that it calls make is longer than what came in: it says more and counts as full. Else prove '..UptoSaid'. A law counts once. -/
mutual
def uptoBulk {H : Type} : DataW H → Nat
  | .lit (.string bytes) => bytes.length + 1
  | .lit _ => 1
  | .nil => 1
  | .ptr d => uptoBulk d + 1
  | .slice elems spare => uptoBulkAll elems + uptoBulkAll spare + 1
  | .agg parts => uptoBulkAll parts + 1
  | .iface _ d => uptoBulk d + 1
  | .map entries => uptoBulkEntries entries + 1
  | .held _ => 1
def uptoBulkAll {H : Type} : List (DataW H) → Nat
  | [] => 0
  | d :: r => uptoBulk d + uptoBulkAll r
def uptoBulkEntries {H : Type} : List (Lit × DataW H) → Nat
  | [] => 0
  | x :: r => uptoBulkEntry x + uptoBulkEntries r
def uptoBulkEntry {H : Type} : Lit × DataW H → Nat
  | (.string bytes, d) => bytes.length + uptoBulk d + 1
  | (_, d) => uptoBulk d + 1
 end
def uptoSmall : (H : Type) → List (DataW H) → Bool := fun _ ds => decide (uptoBulkAll ds ≤ 1048576)
def OpenSpec.upto (s : _root_.Go.ChangeSpec) : _root_.Go.OpenSpec := { _root_.Go.OpenSpec.ofChange s with cond := some uptoSmall }

/-- 'tapestrierlaw17.SeqSpec', WHERE WHAT IT READS IS OF BULK AT MOST 1048576: true; the input reads as it did. -/
def seqSpecUptoRow : OpenClaim := { program := "ytagbjmocjaaioaagreatdoor", sum := "cf8e5d2cbd28802bebdef7aeb81b10f542c6f140fbc0a65dc75d53eb8a6684a0", func := "tapestrier/tapestrierlaw17.SeqSpec", spec := "seqSpec", inPlace := ["internal/bytealg.IndexByteString", "internal/bytealg.IndexString"], unfollowed := true, recurses := true, named := ["unicode/utf8.first", "unicode/utf8.acceptRanges", "internal/bytealg.MaxLen", "tapestrier/tok.signs", "tapestrier/sel.operators", "tapestrier/value.properties", "tapestrier/value.words"], plainKeys := false, apart := false, laid := [("unicode/utf8.acceptRanges", laid_unicode_utf8_acceptRanges), ("tapestrier/value.words", laid_tapestrier_value_words), ("tapestrier/value.properties", laid_tapestrier_value_properties), ("tapestrier/tok.signs", laid_tapestrier_tok_signs), ("tapestrier/sel.operators", laid_tapestrier_sel_operators), ("unicode/utf8.first", laid_unicode_utf8_first)], narrowed := true }
def SeqSpecUptoSaid : Prop := seqSpecUptoRow.holds Tryz.pinned (OpenSpec.upto seqSpecSpec)

/-- 'tapestrierlaw17.SeqRun', WHERE WHAT IT READS IS OF BULK AT MOST 1048576: true; the input reads as it did. -/
def seqRunUptoRow : OpenClaim := { program := "ytagbjmocjaaioaagreatdoor", sum := "cf8e5d2cbd28802bebdef7aeb81b10f542c6f140fbc0a65dc75d53eb8a6684a0", func := "tapestrier/tapestrierlaw17.SeqRun", spec := "seqRun", inPlace := ["internal/bytealg.IndexByteString", "internal/bytealg.IndexString"], unfollowed := true, recurses := true, named := ["unicode/utf8.first", "unicode/utf8.acceptRanges", "internal/bytealg.MaxLen", "tapestrier/tok.signs", "tapestrier/sel.operators", "tapestrier/value.properties", "tapestrier/value.words"], loops := true, plainKeys := false, apart := false, laid := [("unicode/utf8.acceptRanges", laid_unicode_utf8_acceptRanges), ("tapestrier/value.words", laid_tapestrier_value_words), ("tapestrier/value.properties", laid_tapestrier_value_properties), ("tapestrier/tok.signs", laid_tapestrier_tok_signs), ("tapestrier/sel.operators", laid_tapestrier_sel_operators), ("unicode/utf8.first", laid_unicode_utf8_first)], narrowed := true }
def SeqRunUptoSaid : Prop := seqRunUptoRow.holds Tryz.pinned (OpenSpec.upto seqRunSpec)

/-- 'tapestrierlaw17.SeqParent', WHERE WHAT IT READS IS OF BULK AT MOST 1048576: true; the input reads as it did. -/
def seqParentUptoRow : OpenClaim := { program := "ytagbjmocjaaioaagreatdoor", sum := "cf8e5d2cbd28802bebdef7aeb81b10f542c6f140fbc0a65dc75d53eb8a6684a0", func := "tapestrier/tapestrierlaw17.SeqParent", spec := "seqParent", inPlace := ["internal/bytealg.IndexByteString", "internal/bytealg.IndexString"], unfollowed := true, recurses := true, named := ["unicode/utf8.first", "unicode/utf8.acceptRanges", "internal/bytealg.MaxLen", "tapestrier/tok.signs", "tapestrier/sel.operators", "tapestrier/value.properties", "tapestrier/value.words"], loops := true, plainKeys := false, apart := false, laid := [("unicode/utf8.acceptRanges", laid_unicode_utf8_acceptRanges), ("tapestrier/value.words", laid_tapestrier_value_words), ("tapestrier/value.properties", laid_tapestrier_value_properties), ("tapestrier/tok.signs", laid_tapestrier_tok_signs), ("tapestrier/sel.operators", laid_tapestrier_sel_operators), ("unicode/utf8.first", laid_unicode_utf8_first)], narrowed := true }
def SeqParentUptoSaid : Prop := seqParentUptoRow.holds Tryz.pinned (OpenSpec.upto seqParentSpec)

/-- 'tapestrierlaw17.SeqMore', WHERE WHAT IT READS IS OF BULK AT MOST 1048576: true; the input reads as it did. -/
def seqMoreUptoRow : OpenClaim := { program := "ytagbjmocjaaioaagreatdoor", sum := "cf8e5d2cbd28802bebdef7aeb81b10f542c6f140fbc0a65dc75d53eb8a6684a0", func := "tapestrier/tapestrierlaw17.SeqMore", spec := "seqMore", inPlace := ["internal/bytealg.IndexByteString", "internal/bytealg.IndexString"], unfollowed := true, recurses := true, named := ["unicode/utf8.first", "unicode/utf8.acceptRanges", "internal/bytealg.MaxLen", "tapestrier/tok.signs", "tapestrier/sel.operators", "tapestrier/value.properties", "tapestrier/value.words"], loops := true, plainKeys := false, apart := false, laid := [("unicode/utf8.acceptRanges", laid_unicode_utf8_acceptRanges), ("tapestrier/value.words", laid_tapestrier_value_words), ("tapestrier/value.properties", laid_tapestrier_value_properties), ("tapestrier/tok.signs", laid_tapestrier_tok_signs), ("tapestrier/sel.operators", laid_tapestrier_sel_operators), ("unicode/utf8.first", laid_unicode_utf8_first)], narrowed := true }
def SeqMoreUptoSaid : Prop := seqMoreUptoRow.holds Tryz.pinned (OpenSpec.upto seqMoreSpec)

/-- 'tapestrierlaw17.SeqNone', WHERE WHAT IT READS IS OF BULK AT MOST 1048576: true; the input reads as it did. -/
def seqNoneUptoRow : OpenClaim := { program := "ytagbjmocjaaioaagreatdoor", sum := "cf8e5d2cbd28802bebdef7aeb81b10f542c6f140fbc0a65dc75d53eb8a6684a0", func := "tapestrier/tapestrierlaw17.SeqNone", spec := "seqNone", inPlace := ["internal/bytealg.IndexByteString", "internal/bytealg.IndexString"], unfollowed := true, recurses := true, named := ["unicode/utf8.first", "unicode/utf8.acceptRanges", "internal/bytealg.MaxLen", "tapestrier/tok.signs", "tapestrier/sel.operators", "tapestrier/value.properties", "tapestrier/value.words"], plainKeys := false, apart := false, laid := [("unicode/utf8.acceptRanges", laid_unicode_utf8_acceptRanges), ("tapestrier/value.words", laid_tapestrier_value_words), ("tapestrier/value.properties", laid_tapestrier_value_properties), ("tapestrier/tok.signs", laid_tapestrier_tok_signs), ("tapestrier/sel.operators", laid_tapestrier_sel_operators), ("unicode/utf8.first", laid_unicode_utf8_first)], narrowed := true }
def SeqNoneUptoSaid : Prop := seqNoneUptoRow.holds Tryz.pinned (OpenSpec.upto seqNoneSpec)

end Rows
end Go.Proofs.YtagbjmocjaaioaaGreatDoor
