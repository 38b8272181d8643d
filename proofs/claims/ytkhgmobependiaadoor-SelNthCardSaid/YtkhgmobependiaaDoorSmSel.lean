/- Two lists of selectors in memory, that are one: the document's own SameStrings, SameCompound, SameSelectors. -/
import Derived.Test.YtkhgmobependiaaDoorWgMem
import Derived.Test.YtkhgmobependiaaDoorRgn
namespace Go.Proofs.YtkhgmobependiaaDoor.Wg
open Go.Proofs.YtkhgmobependiaaDoor.Tre
open Go Go.RowKit Sl

/-- As SelsR, to the last list. -/
def SelsE : Nat → Nat → World → Value → List Sel → Prop
  | 0, _, _, v, l => l = [] ∧ v = .slice none 0 0
  | d + 1, n, W, v, l => RowT 1 (fun c s => ∃ x, c = [x] ∧ PtsR (SelsE d n W) n W x s) n W v l
theorem SelsE.below : ∀ (d : Nat) {n : Nat} {X Y : World} {v : Value} {l : List Sel}, SelsE d n X v l → Below n X Y → SelsE d n Y v l
  | 0, _, _, _, _, _, h, _ => h
  | d + 1, _, _, _, _, _, h, hb => RowT.below h hb (fun _ _ ⟨x, e, hx⟩ => ⟨x, e, hx.below hb (fun _ _ hq => SelsE.below d hq hb)⟩)
theorem SelsE.mono : ∀ (d : Nat) {n m : Nat} {X : World} {v : Value} {l : List Sel}, SelsE d n X v l → n ≤ m → SelsE d m X v l
  | 0, _, _, _, _, _, h, _ => h
  | d + 1, _, _, _, _, _, h, hn => RowT.mono h hn (fun _ _ ⟨x, e, hx⟩ => ⟨x, e, hx.mono hn (fun _ _ hq => SelsE.mono d hq hn)⟩)
theorem SelsE.next {d : Nat} {X Y : World} {v : Value} {l : List Sel} (h : SelsE d X.heap.size X v l) (hb : Below X.heap.size X Y) : SelsE d Y.heap.size Y v l := (h.below d hb).mono d hb.size
theorem SelsE.len {d n : Nat} {X : World} {v : Value} {l : List Sel} (h : SelsE d n X v l) : ∃ p cap, v = .slice p l.length cap := by
  cases d with
  | zero => obtain ⟨rfl, rfl⟩ := h; exact ⟨_, _, rfl⟩
  | succ d => exact RowT.len h
theorem SelsE.nil : ∀ (d n : Nat) (W : World), SelsE d n W (.slice none 0 0) []
  | 0, _, _ => ⟨rfl, rfl⟩
  | _ + 1, _, _ => .inl ⟨rfl, _, _, rfl⟩
theorem SelsAt.toE : ∀ (d : Nat) {P : Nat → Prop} {W : World} {v : Value} {l : List Sel}, Sl.SelsAt d P W v l → SelsE d W.heap.size W v l
  | 0, _, _, _, _, h => h
  | d + 1, _, _, _, _, h => FinRow.toR h (fun _ _ ⟨x, e, hx⟩ => ⟨x, e, PtsF.toR hx (fun _ _ hq => SelsAt.toE d hq)⟩)
theorem CpC.next {d : Nat} {X Y : World} {c : List Value} {q : Cp} (h : CpC (SelsE d X.heap.size X) X.heap.size X c q) (hb : Below X.heap.size X Y) : CpC (SelsE d Y.heap.size Y) Y.heap.size Y c q := (h.below hb (fun _ _ hq => hq.below d hb)).mono hb.size (fun _ _ hq => hq.mono d hb.size)

end Go.Proofs.YtkhgmobependiaaDoor.Wg
