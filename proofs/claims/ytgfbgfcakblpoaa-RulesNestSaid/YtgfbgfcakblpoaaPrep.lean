/- The iterator text.prepared over whatever iterator tells integers: it tells the same, prepared; it keeps two variables in memory. -/
import Derived.Shelf.RegionOpen
import Derived.Test.YtgfbgfcakblpoaaDec
namespace Go.Proofs.Ytgfbgfcakblpoaa
open Go Go.RowKit Go.Shelf
attribute [local go_sem] Oper.semAt_some

/-- In the wide fence a round's contract stands at whatever depth, in a round or out of one. -/
theorem roundAny {n m l' l : Nat} {f : FuncId} {tmps : Array Value} {assign body : Code} {w : World} {R : Ending → World → Prop} (h : RoundIn Fence.wide n Try.prog l f tmps assign body w R) :
    RoundIn (Fence.wide.inRound l') m Try.prog l f tmps assign body w R := ⟨h.1, fun c cs _ => h.2 c cs (fun d hd => by cases hd)⟩

theorem follows : Try.prog.follows .mixedOrders = true := by kernel_rfl

end Go.Proofs.Ytgfbgfcakblpoaa
