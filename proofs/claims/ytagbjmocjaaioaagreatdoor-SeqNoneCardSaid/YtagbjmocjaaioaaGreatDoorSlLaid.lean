/- From what the rows list of package sel's table to what the walks ask of the world; and a world that holds it, for the witness. -/
import Derived.Test.YtagbjmocjaaioaaGreatDoorCards
import Derived.Test.YtagbjmocjaaioaaGreatDoorTie
import Derived.Test.YtagbjmocjaaioaaGreatDoorSlUnit
import Derived.WalkKit
import Derived.ProofKit
import Derived.OpenShut
import Derived.ShutString
import Derived.ChangeOld
import Derived.Below
import Derived.Deep.Strs
import Derived.Deep.Slices
import Derived.Deep.DeepHandedRow
import Derived.Lib.LaidTab
import Derived.Lib.LaidU8
set_option maxRecDepth 100000
namespace Go.Proofs.YtagbjmocjaaioaaGreatDoor.Sl
open Go.Proofs.YtagbjmocjaaioaaGreatDoor.Tre
open Go Go.RowKit Go.Lib Go.ChangeShapes Go.WideShapes Go.ChangeAt
theorem cells_int:Tryz.prog.cellsOf 3 = 1:=by kernel_rfl
def opData:DataW Unit:=.agg (opsT.map fun r => .agg [.lit (.int .i64 r.1),.lit (.int .i64 r.2)])
theorem laid_ops_eq:(Rows.laid_tapestrier_sel_operators:DataW Unit) = opData:=by kernel_rfl
theorem cells_op:Tryz.prog.cellsOf 347 = 2:=by kernel_rfl
theorem cells_ops:Tryz.prog.cellsOf 348 = 10:=by kernel_rfl
theorem ops_len {W:World} {fuel:Nat} {cs:List Value} {p:List MemPlace} (h:DataW.trod (fun _ => ()) Tryz.prog W 0 (fun _ => true) false fuel 348 cs = some (opData,p)):cs.length = 10:=by
 cases fuel with
 | zero => simp [DataW.trod] at h
 | succ fuel =>
  simp only [DataW.trod,Tryz.underlying348,cells_ops,cells_op] at h
  split at h
  ·rename_i hl
   simpa using hl
  ·cases h
theorem op_cells {W:World} {fuel:Nat} {cs:List Value} {p:List MemPlace} {r:Int × Int}
  (h:DataW.trod (fun _ => ()) Tryz.prog W 0 (fun _ => true) false fuel 347 cs = some ((.agg [.lit (.int .i64 r.1),.lit (.int .i64 r.2)]:DataW Unit),p)):cs = opCells r:=by
 obtain ⟨z0,z1,m,ez,hl,k0,k1⟩:=trod_struct2 Tryz.underlying347 h
 rw [cells_op] at hl
 match cs,hl with
 | [a,b],_ =>
  simp only [cells_int] at k0 k1
  obtain ⟨n2,q2,e2,_⟩:=DataW.trod_int Tryz.underlying3 k0
  obtain ⟨n3,q3,e3,_⟩:=DataW.trod_int Tryz.underlying3 k1
  subst e2 e3
  simp only [Prod.mk.injEq,DataW.agg.injEq,List.cons.injEq,DataW.lit.injEq,Lit.int.injEq,true_and,and_true] at ez
  obtain ⟨⟨h0,h1⟩,_⟩:=ez
  simp only [List.drop_zero,List.drop_succ_cons,List.take_succ_cons,List.take_zero,List.cons.injEq,and_true,List.take_nil] at q2 q3
  subst q2 q3
  unfold opCells
  rw [h0,h1]
theorem ops_row {W:World} {fuel:Nat} {cs:List Value} {p:List MemPlace} (h:DataW.trod (fun _ => ()) Tryz.prog W 0 (fun _ => true) false fuel 348 cs = some (opData,p)):cs = opRow.toList:=by
 have hl:=ops_len h
 apply List.ext_getElem?
 intro j
 by_cases hj:j < 10
 ·obtain ⟨fuel',d,q,hdi,he⟩:=array_elem Tryz.underlying348 h (j / 2) (by omega)
  rw [List.getElem?_map] at hdi
  obtain ⟨r,hr,rfl⟩:=Option.map_eq_some_iff.1 hdi
  rw [cells_op] at he
  have hc:=op_cells he
  have e1:cs[j]? = (opCells r)[j % 2]?:=by
   rw [← hc,List.getElem?_take_of_lt (by omega),List.getElem?_drop]
   congr 1
   omega
  have e2:opRow.toList[j]? = (opCells r)[j % 2]?:=by
   have hk:j / 2 < 5:=by omega
   have hm:j % 2 < 2:=by omega
   have hjj:j = j / 2 * 2 + j % 2:=by omega
   rw [hjj]
   rw [show (j / 2 * 2 + j % 2) % 2 = j % 2 by omega]
   generalize j / 2 = i at *
   generalize j % 2 = m at *
   obtain rfl | rfl | rfl | rfl | rfl:i = 0 ∨ i = 1 ∨ i = 2 ∨ i = 3 ∨ i = 4:=by omega
   all_goals (cases hr;obtain rfl | rfl:m = 0 ∨ m = 1:=by omega)
   all_goals rfl
  rw [e1,e2]
 ·rw [List.getElem?_eq_none (by omega),List.getElem?_eq_none (by show 10 ≤ j;omega)]
theorem ops_of {W:World} (h:VarReads Tryz.prog W "tapestrier/sel.operators" opData):OpsAt W.heap.size W:=by
 obtain ⟨g,t,cs,fuel,p,hg,hty,hvar,hd⟩:=h
 have hg':Tryz.prog.globalNamed "tapestrier/sel.operators" = some 5:=by kernel_rfl
 obtain rfl:=Option.some.inj (hg'.symm.trans hg)
 have hty':(Tryz.prog.globals[5]?).map (·.type) = some 348:=by kernel_rfl
 obtain rfl:=Option.some.inj (hty'.symm.trans hty)
 have hcs:cs = opRow:=Array.toList_inj.1 (ops_row hd)
 subst hcs
 unfold World.var? at hvar
 rw [hg] at hvar
 simp only [Option.bind_some] at hvar
 split at hvar
 ·rename_i cs' t' fr' he
  have hc:cs' = opRow:=Option.some.inj hvar
  subst hc
  exact ⟨(Array.getElem?_eq_some_iff.1 he).1,_,_,he⟩
 ·cases hvar
end Go.Proofs.YtagbjmocjaaioaaGreatDoor.Sl
