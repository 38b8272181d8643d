/- tok.Text of no tokens; the document's own tokens as the reader's cells. -/
import Derived.Test.YtmjbajocdchdiaaGreatDoorTkUse
import Derived.Test.YtmjbajocdchdiaaGreatDoorRtTok
import Derived.Lib.Builder
namespace Go.Proofs.YtmjbajocdchdiaaGreatDoor
open Go Go.RowKit Go.Shelf

theorem bts_cells : ∀ l : List Tk, btsCells (l.map Ref.btOf) = tksCells l
  | [] => rfl
  | t :: l => by
    have := bts_cells l
    unfold btsCells tksCells at this ⊢
    rw [List.map_cons, List.flatMap_cons, List.flatMap_cons, this]
    rfl
theorem bld_new (w : World) : Lib.IsBuilder 44 5 w.heap.size w.heap.size [] (w.alloc (.cells #[.pointer none, .slice none 0 0] 44)) :=
  .inl ⟨Nat.le_refl _, .slice none 0 0, heap_alloc_new w _, World.ownsRow_nil _ _ _ _, by simp [Value.ownBlock]⟩

set_option maxRecDepth 100000 in
set_option maxHeartbeats 1000000 in
theorem text_nil (w : World) : Calls Tryz.prog 10 #[.slice none 0 0] w fun e w' => e = .returned (.string ⟨#[]⟩) ∧ Below w.heap.size w w' := by
  have b0 : Below w.heap.size w (w.alloc (.cells #[.pointer none, .slice none 0 0] 44)) := (Below.refl _ w).alloc (Nat.le_refl _) _
  have h1 := Tryz.Builder_String_empty w.heap.size w.heap.size _ (bld_new w) b0.size
  go_enter Tryz.func10, Tryz.ntmps10
  go_wp2_with fail
  generalize w.alloc (.cells #[.pointer none, .slice none 0 0] 44) = W at *
  go_loopw [8] (fun x wr => x = .int .i64 0 ∧ W = wr) (fun _ _ => 0)
  case atStart => exact ⟨rfl, rfl⟩
  case round =>
    obtain ⟨rfl, rfl⟩ := hrel
    go_wp2_with fail
    refine h1.mono ?_
    rintro e w2 ⟨rfl, b2⟩
    go_wp2
    go_ret
    exact ⟨rfl, b0.trans b2⟩

end Go.Proofs.YtmjbajocdchdiaaGreatDoor
