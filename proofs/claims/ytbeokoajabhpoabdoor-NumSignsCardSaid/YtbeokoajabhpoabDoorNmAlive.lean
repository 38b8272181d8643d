/- The document's example: Of of -1.2345 is -1234, and the text of it is -1.234 (the laws' own 'alive'), in every world that holds the library's table. -/
import Derived.Test.YtbeokoajabhpoabDoorNmText
namespace Go.Proofs.YtbeokoajabhpoabDoor
open Go Go.RowKit Go.Shelf

theorem alive_num : numN [45, 49, 46, 50, 51, 52, 53] = -1234 ∧ numOk [45, 49, 46, 50, 51, 52, 53] = true := by decide +kernel
theorem alive_txt : txt (-1234) = [45, 49, 46, 50, 51, 52] := by
  have e : capI (-1234) = -1234 := by decide
  rw [txt, e, if_pos (by decide), mag, frac, if_neg (by decide)]
  rw [show ((-1234 : Int).natAbs / 1000) = 1 by decide, Lib.decDigits_one (by decide), show 1000 + (-1234 : Int).natAbs % 1000 = 1000 + 234 by decide, dec4 234 (by decide)]
  rfl
theorem eq_list {a : ByteArray} {l : List UInt8} (h : a.data.toList = l) : a = ⟨l.toArray⟩ := by
  cases a with
  | mk d => subst h; simp

set_option maxRecDepth 100000 in
set_option maxHeartbeats 1000000 in
theorem alive_any (w : World) (hT : Tabs w.heap.size w) :
    Calls Tryd.prog 5 #[] w fun e w' => e = .returned (.bool true) ∧ Below w.heap.size w w' := by
  have h1 := of_any ⟨#[45, 49, 46, 50, 51, 52, 53]⟩ w (by decide) hT
  rw [show (⟨#[45, 49, 46, 50, 51, 52, 53]⟩ : ByteArray).data.toList = [45, 49, 46, 50, 51, 52, 53] from rfl, alive_num.1, alive_num.2] at h1
  have h2 := fun w hT => text_any (-1234) w hT
  rw [alive_txt] at h2
  go_enter Tryd.func5, Tryd.ntmps5
  go_wp2_with fail
  refine h1.mono ?_
  rintro e w1 ⟨rfl, b1⟩
  go_wp2_with fail
  refine (h2 _ (hT.next b1)).mono ?_
  rintro e w2 ⟨r, rfl, hr, b2⟩
  obtain rfl := eq_list hr
  go_wp2
  go_ret
  exact ⟨rfl, b1.trans (b2.mono b1.size)⟩

end Go.Proofs.YtbeokoajabhpoabDoor
