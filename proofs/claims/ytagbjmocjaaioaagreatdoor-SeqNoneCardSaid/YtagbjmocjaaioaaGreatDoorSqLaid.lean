/- All tables that the laws of chapter 17 lean on; out of what the rows list of them; and a world that holds them, for the witness. -/
import Derived.Test.YtagbjmocjaaioaaGreatDoorSqLive
import Derived.Test.YtagbjmocjaaioaaGreatDoorTkLaid
import Derived.Test.YtagbjmocjaaioaaGreatDoorVlLaid
import Derived.Test.YtagbjmocjaaioaaGreatDoorSlLaid
namespace Go.Proofs.YtagbjmocjaaioaaGreatDoor
open Go Go.RowKit
def AllTabs (w:World):Prop:=LTabs w.heap.size w ∧ Sl.OpsAt w.heap.size w ∧ Vl.Tabs7 w.heap.size w ∧ Mt.ML w
def laidA:List (String × DataW Unit):=[("unicode/utf8.acceptRanges",Rows.laid_unicode_utf8_acceptRanges),("tapestrier/value.words",Rows.laid_tapestrier_value_words),("tapestrier/value.properties",Rows.laid_tapestrier_value_properties),("tapestrier/tok.signs",Rows.laid_tapestrier_tok_signs),("tapestrier/sel.operators",Rows.laid_tapestrier_sel_operators),("unicode/utf8.first",Rows.laid_unicode_utf8_first)]
theorem tabs_of_laidA {W:World} (h:laidMetH Tryz.prog laidA W) (hS:W.ShapedOpen Tryz.prog):AllTabs W:=
 ⟨tabs_of_reads h hS (by simp [laidA]) (by simp [laidA]) (by simp [laidA]),
  Sl.ops_of (by rw [← Sl.laid_ops_eq];exact Lib.laidMet.reads h (by simp [laidA])),
  ⟨Vl.words_of (by rw [← Vl.laid_words_eq];exact Lib.laidMet.reads h (by simp [laidA])),Vl.props_of (by rw [← Vl.laid_props_eq];exact Lib.laidMet.reads h (by simp [laidA]))⟩,
  Tryz.laysM144.s1_3 W hS⟩
def laidAll (w:World):World:=
 { w with heap:=(((((w.heap.modify 1 (newCells firstCells)).modify 2 (newCells acceptCells)).modify 4 (newCells signRow)).modify 5 (newCells Sl.opRow)).modify 3 (newCells Vl.wordRow)).modify 0 (newCells Vl.propRow) }
end Go.Proofs.YtagbjmocjaaioaaGreatDoor
