/- package bucket in plain words (chapter 12): buckets, rules by buckets, what a node finds. -/
import Derived.Test.YtagbjmocjaaioaaGreatDoorTre
import Derived.Test.YtagbjmocjaaioaaGreatDoorSlMem
import Derived.Test.YtagbjmocjaaioaaGreatDoorRgn
import Derived.Lib.SlicesCompact
import Derived.Maps.OwnSet
import Derived.DeepKeys5
namespace Go.Proofs.YtagbjmocjaaioaaGreatDoor.Bk
open Go.Proofs.YtagbjmocjaaioaaGreatDoor.Tre
open Go
abbrev Rl:=List Sel
def lenV (l:List Rl):Nat:=(l.map (fun r => (r.filter (fun s => !s.isEmpty)).length)).sum
/-! ### what is added -/
/-! ### rising lists -/
/-! ### few -/
end Go.Proofs.YtagbjmocjaaioaaGreatDoor.Bk

/- package bucket: a map of lists in memory. -/
namespace Go.Proofs.YtagbjmocjaaioaaGreatDoor.Bk
open Go.Proofs.YtagbjmocjaaioaaGreatDoor.Tre
open Go Go.RowKit Sl
/-! ### keys -/
def held (v:Value):Option (DataW Value × List MemPlace):=some (.held v,[])
/-! ### the map -/
end Go.Proofs.YtagbjmocjaaioaaGreatDoor.Bk

/- package bucket: lists.add. -/
namespace Go.Proofs.YtagbjmocjaaioaaGreatDoor.Bk
open Go.Proofs.YtagbjmocjaaioaaGreatDoor.Tre
open Go Go.RowKit Sl
theorem step_append_run {P:Program} {ops:Array Oper} {Q:Exit → Act → World → Prop} {o:Oper} {a:Act} {w w':World} {K:Act → World → Prop} {E:Prop} (hgd:o.guard = none) (s x:Operand) (t:TypeId)
  (ho:o.op = .call { callee:=.builtin .append,args:=#[s,x],argTypes:=#[t,t] }) {v xv v':Value} (hs:a.eval s = v) (hx:a.eval x = xv) (hrun:(Builtin.append_ #[t,t] o.type #[v,xv]).run P w = .ok v' w')
  (h:K (a.put o.dst v') w'):if Region.wanted o (yielded ops a.tmps) = true then Oper.wp P o a w K Q else E:=by
 have hw:Region.wanted o (yielded ops a.tmps) = true:=by simp [Region.wanted,hgd]
 rw [if_pos hw]
 unfold Oper.wp
 simp [execOp,ho,resolve,invoke,builtin,hs,hx,hrun,Result.andThen]
 exact h
end Go.Proofs.YtagbjmocjaaioaaGreatDoor.Bk
