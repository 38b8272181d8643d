/- A law of the walk: a range over a function whose iterator keeps variables of its own in memory: between two rounds the caller's invariant need not mind what the iterator does to its own first k blocks, and a round leaves these blocks as they lay. -/
import Derived.RangeFuncNested
import Derived.RangeFuncBound
import Derived.RangeFuncCalls
import Derived.RangeFuncLeaves
namespace Go.Proofs.YtcmmdojlhfmddaaGreat
open Go Go.RowKit
def AbidesIn {β:Type} (lo hi:Nat) (J:β → World → Prop):Prop:=
 ∀ s X Y row,J s X → X.grownBy Y row → (∀ r,row = some r → lo ≤ r ∧ r < hi) → J s Y
theorem AbidesIn.alloc {β:Type} {lo hi:Nat} {J:β → World → Prop} (h:AbidesIn lo hi J) {s:β} {X:World} (o:Obj) (hs:J s X):J s (X.alloc o):=
 h s X _ none hs (World.grownBy_alloc X o none) (fun _ e => by cases e)
theorem AbidesIn.putObj {β:Type} {lo hi:Nat} {J:β → World → Prop} (h:AbidesIn lo hi J) {s:β} {X:World} {l:Nat} (o:Obj) (hs:J s X) (h1:lo ≤ l) (h2:l < hi):J s (X.putObj l o):=
 h s X _ (some l) hs (grownBy_putObj' X l o) (fun r e => by cases e;exact ⟨h1,h2⟩)
theorem AbidesIn.mono {β:Type} {lo hi lo' hi':Nat} {J:β → World → Prop} (h:AbidesIn lo hi J) (h1:lo ≤ lo') (h2:hi' ≤ hi):AbidesIn lo' hi' J:=
 fun s X Y row hs hg hr => h s X Y row hs hg (fun r e => by have:=hr r e;omega)
theorem grownBy_drew (X:World) (row:Option Nat):X.grownBy X.drew row:=⟨rfl,rfl,rfl,Nat.le_refl _,fun _ _ _ => rfl⟩
theorem AbidesIn.drew {β:Type} {lo hi:Nat} {J:β → World → Prop} (h:AbidesIn lo hi J) {s:β} {X:World} (hs:J s X):J s X.drew:=
 h s X _ none hs (grownBy_drew X none) (fun _ e => by cases e)
structure KeepsIn (n₀ lo hi:Nat) (X Y:World):Prop where
 below:Below n₀ X Y
 own:∀ r,lo ≤ r → r < hi → Y.heap[r]? = X.heap[r]?
theorem KeepsIn.refl (n₀ lo hi:Nat) (X:World):KeepsIn n₀ lo hi X X:=⟨Below.refl _ _,fun _ _ _ => rfl⟩
theorem KeepsIn.trans {n₀ lo hi:Nat} {X Y Z:World} (h:KeepsIn n₀ lo hi X Y) (k:KeepsIn n₀ lo hi Y Z):KeepsIn n₀ lo hi X Z:=
 ⟨h.below.trans k.below,fun r h1 h2 => (k.own r h1 h2).trans (h.own r h1 h2)⟩
theorem KeepsIn.mono {n₀ n₁ lo hi lo' hi':Nat} {X Y:World} (h:KeepsIn n₀ lo hi X Y) (h0:n₁ ≤ n₀) (h1:lo ≤ lo') (h2:hi' ≤ hi):KeepsIn n₁ lo' hi' X Y:=
 ⟨h.below.mono h0,fun r a b => h.own r (by omega) (by omega)⟩
theorem KeepsIn.of_grownBy {n₀ lo hi:Nat} {X Y:World} {row:Option Nat} (hg:X.grownBy Y row) (hn:n₀ ≤ X.heap.size) (hh:hi ≤ X.heap.size)
  (hr:∀ r,row = some r → n₀ ≤ r ∧ (r < lo ∨ hi ≤ r)):KeepsIn n₀ lo hi X Y:=
 ⟨(Below.refl n₀ X).grown hg hn (fun r e => (hr r e).1),fun r h1 h2 => hg.block r (by omega) (fun e => by have:=(hr r e.symm).2;omega)⟩
theorem KeepsIn.putObj {n₀ lo hi:Nat} {X:World} {l:Nat} (o:Obj) (hn:n₀ ≤ X.heap.size) (hh:hi ≤ X.heap.size) (h0:n₀ ≤ l) (h1:l < lo ∨ hi ≤ l):KeepsIn n₀ lo hi X (X.putObj l o):=
 KeepsIn.of_grownBy (grownBy_putObj' X l o) hn hh (fun r e => by cases e;exact ⟨h0,h1⟩)
variable {F:Fence} {n:Nat} {P:Program}
end Go.Proofs.YtcmmdojlhfmddaaGreat
