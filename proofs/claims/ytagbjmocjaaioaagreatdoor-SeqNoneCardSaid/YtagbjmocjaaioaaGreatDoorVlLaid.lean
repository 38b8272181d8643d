/- From what the rows list of the tables of package value to what the walks ask of the world; and a world that holds them, for the witness; slices of tokens as arguments. -/
import Derived.Test.YtagbjmocjaaioaaGreatDoorCards
import Derived.Test.YtagbjmocjaaioaaGreatDoorTie
import Derived.Test.YtagbjmocjaaioaaGreatDoorVlWord
import Derived.WalkKit
import Derived.ProofKit
import Derived.OpenShut
import Derived.ShutString
import Derived.ChangeOld
import Derived.Below
import Derived.Deep.Strs
import Derived.Deep.Slices
import Derived.Deep.DeepHandedRow
import Derived.Lib.LaidTab
import Derived.Lib.LaidU8
namespace Go.Proofs.YtagbjmocjaaioaaGreatDoor.Vl
open Go Go.RowKit Go.Lib Go.ChangeShapes Go.WideShapes Go.ChangeAt
set_option maxRecDepth 100000
theorem cells_int:Tryz.prog.cellsOf 3 = 1:=by kernel_rfl
theorem cells_str:Tryz.prog.cellsOf 9 = 1:=by kernel_rfl
theorem cells_bool:Tryz.prog.cellsOf 4 = 1:=by kernel_rfl
theorem cells_val:Tryz.prog.cellsOf 51 = 2:=by kernel_rfl
/-! ### the words -/
def wordData:DataW Unit:=.agg (wordsT.map fun r => .agg [.lit (.int .i64 r.1),.lit (.string r.2.1),.agg [.lit (.int .i64 r.2.2.1),.lit (.int .i64 r.2.2.2)]])
theorem laid_words_eq:(Rows.laid_tapestrier_value_words:DataW Unit) = wordData:=by kernel_rfl
theorem cells_word:Tryz.prog.cellsOf 272 = 4:=by kernel_rfl
theorem cells_words:Tryz.prog.cellsOf 273 = 64:=by kernel_rfl
theorem words_len {W:World} {fuel:Nat} {cs:List Value} {p:List MemPlace} (h:DataW.trod (fun _ => ()) Tryz.prog W 0 (fun _ => true) false fuel 273 cs = some (wordData,p)):cs.length = 64:=by
 cases fuel with
 | zero => simp [DataW.trod] at h
 | succ fuel =>
  simp only [DataW.trod,Tryz.underlying273,cells_words,cells_word] at h
  split at h
  ·rename_i hl
   simpa using hl
  ·cases h
theorem word_cells {W:World} {fuel:Nat} {cs:List Value} {p:List MemPlace} {r:Int × List UInt8 × Int × Int}
  (h:DataW.trod (fun _ => ()) Tryz.prog W 0 (fun _ => true) false fuel 272 cs = some ((.agg [.lit (.int .i64 r.1),.lit (.string r.2.1),.agg [.lit (.int .i64 r.2.2.1),.lit (.int .i64 r.2.2.2)]]:DataW Unit),p)):cs = wordCells r:=by
 obtain ⟨y0,y1,y2,n,hx,hl,g0,g1,g2⟩:=Deep.trod_struct3 Tryz.underlying272 h
 rw [cells_word] at hl
 match cs,hl with
 | [a,b,c,d],_ =>
  simp only [cells_int,cells_str,cells_val] at g0 g1 g2
  obtain ⟨n0,q0,e0,_⟩:=DataW.trod_int Tryz.underlying3 g0
  obtain ⟨s1,q1,e1,_⟩:=DataW.trod_string Tryz.underlying9 g1
  obtain ⟨z0,z1,m,ez,_,k0,k1⟩:=trod_struct2 Tryz.underlying51 g2
  simp only [cells_int] at k0 k1
  obtain ⟨n2,q2,e2,_⟩:=DataW.trod_int Tryz.underlying3 k0
  obtain ⟨n3,q3,e3,_⟩:=DataW.trod_int Tryz.underlying3 k1
  subst e0 e1 e2 e3 ez
  simp only [Prod.mk.injEq,DataW.agg.injEq,List.cons.injEq,DataW.lit.injEq,Lit.int.injEq,Lit.string.injEq,true_and,and_true] at hx
  obtain ⟨⟨h0,h1,h2,h3⟩,_⟩:=hx
  simp only [List.drop_zero,List.drop_succ_cons,List.take_succ_cons,List.take_zero,List.cons.injEq,and_true,List.take_nil] at q0 q1 q2 q3
  subst q0 q1 q2 q3
  unfold wordCells
  rw [h0,h1,h2,h3]
theorem words_row {W:World} {fuel:Nat} {cs:List Value} {p:List MemPlace} (h:DataW.trod (fun _ => ()) Tryz.prog W 0 (fun _ => true) false fuel 273 cs = some (wordData,p)):cs = wordRow.toList:=by
 have hl:=words_len h
 apply List.ext_getElem?
 intro j
 by_cases hj:j < 64
 ·obtain ⟨fuel',d,q,hdi,he⟩:=array_elem Tryz.underlying273 h (j / 4) (by omega)
  rw [List.getElem?_map] at hdi
  obtain ⟨r,hr,rfl⟩:=Option.map_eq_some_iff.1 hdi
  rw [cells_word] at he
  have hc:=word_cells he
  have e1:cs[j]? = (wordCells r)[j % 4]?:=by
   rw [← hc,List.getElem?_take_of_lt (by omega),List.getElem?_drop]
   congr 1
   omega
  have e2:wordRow.toList[j]? = (wordCells r)[j % 4]?:=by
   have hk:j / 4 < 16:=by omega
   have hm:j % 4 < 4:=by omega
   have hjj:j = j / 4 * 4 + j % 4:=by omega
   rw [hjj]
   rw [show (j / 4 * 4 + j % 4) % 4 = j % 4 by omega]
   generalize j / 4 = i at *
   generalize j % 4 = m at *
   obtain rfl | rfl | rfl | rfl | rfl | rfl | rfl | rfl | rfl | rfl | rfl | rfl | rfl | rfl | rfl | rfl:i = 0 ∨ i = 1 ∨ i = 2 ∨ i = 3 ∨ i = 4 ∨ i = 5 ∨ i = 6 ∨ i = 7 ∨ i = 8 ∨ i = 9 ∨ i = 10 ∨ i = 11 ∨ i = 12 ∨ i = 13 ∨ i = 14 ∨ i = 15:=by omega
   all_goals (cases hr;obtain rfl | rfl | rfl | rfl:m = 0 ∨ m = 1 ∨ m = 2 ∨ m = 3:=by omega)
   all_goals rfl
  rw [e1,e2]
 ·rw [List.getElem?_eq_none (by omega),List.getElem?_eq_none (by show 64 ≤ j;omega)]
theorem words_of {W:World} (h:VarReads Tryz.prog W "tapestrier/value.words" wordData):WordsAt W.heap.size W:=by
 obtain ⟨g,t,cs,fuel,p,hg,hty,hvar,hd⟩:=h
 have hg':Tryz.prog.globalNamed "tapestrier/value.words" = some 3:=by kernel_rfl
 obtain rfl:=Option.some.inj (hg'.symm.trans hg)
 have hty':(Tryz.prog.globals[3]?).map (·.type) = some 273:=by kernel_rfl
 obtain rfl:=Option.some.inj (hty'.symm.trans hty)
 have hcs:cs = wordRow:=Array.toList_inj.1 (words_row hd)
 subst hcs
 unfold World.var? at hvar
 rw [hg] at hvar
 simp only [Option.bind_some] at hvar
 split at hvar
 ·rename_i cs' t' fr' he
  have hc:cs' = wordRow:=Option.some.inj hvar
  subst hc
  exact ⟨(Array.getElem?_eq_some_iff.1 he).1,_,_,he⟩
 ·cases hvar
/-! ### the properties -/
def propData:DataW Unit:=.agg (propsT.map fun r => .agg [.lit (.string r.1),.lit (.bool r.2.1),.lit (.int .i64 r.2.2)])
theorem laid_props_eq:(Rows.laid_tapestrier_value_properties:DataW Unit) = propData:=by kernel_rfl
theorem cells_prop:Tryz.prog.cellsOf 161 = 3:=by kernel_rfl
theorem cells_props:Tryz.prog.cellsOf 199 = 24:=by kernel_rfl
theorem props_len {W:World} {fuel:Nat} {cs:List Value} {p:List MemPlace} (h:DataW.trod (fun _ => ()) Tryz.prog W 0 (fun _ => true) false fuel 199 cs = some (propData,p)):cs.length = 24:=by
 cases fuel with
 | zero => simp [DataW.trod] at h
 | succ fuel =>
  simp only [DataW.trod,Tryz.underlying199,cells_props,cells_prop] at h
  split at h
  ·rename_i hl
   simpa using hl
  ·cases h
theorem prop_cells {W:World} {fuel:Nat} {cs:List Value} {p:List MemPlace} {r:List UInt8 × Bool × Int}
  (h:DataW.trod (fun _ => ()) Tryz.prog W 0 (fun _ => true) false fuel 161 cs = some ((.agg [.lit (.string r.1),.lit (.bool r.2.1),.lit (.int .i64 r.2.2)]:DataW Unit),p)):cs = propCells r:=by
 obtain ⟨y0,y1,y2,n,hx,hl,g0,g1,g2⟩:=Deep.trod_struct3 Tryz.underlying161 h
 rw [cells_prop] at hl
 match cs,hl with
 | [a,b,c],_ =>
  simp only [cells_int,cells_str,cells_bool] at g0 g1 g2
  obtain ⟨n0,q0,e0,_⟩:=DataW.trod_string Tryz.underlying9 g0
  obtain ⟨s1,q1,e1⟩:=DataW.trod_bool Tryz.underlying4 g1
  obtain ⟨n2,q2,e2,_⟩:=DataW.trod_int Tryz.underlying3 g2
  subst e0 e1 e2
  simp only [Prod.mk.injEq,DataW.agg.injEq,List.cons.injEq,DataW.lit.injEq,Lit.int.injEq,Lit.string.injEq,Lit.bool.injEq,true_and,and_true] at hx
  obtain ⟨⟨h0,h1,h2⟩,_⟩:=hx
  simp only [List.drop_zero,List.drop_succ_cons,List.take_succ_cons,List.take_zero,List.cons.injEq,and_true,List.take_nil] at q0 q1 q2
  subst q0 q1 q2
  unfold propCells
  rw [h0,h1,h2]
theorem props_row {W:World} {fuel:Nat} {cs:List Value} {p:List MemPlace} (h:DataW.trod (fun _ => ()) Tryz.prog W 0 (fun _ => true) false fuel 199 cs = some (propData,p)):cs = propRow.toList:=by
 have hl:=props_len h
 apply List.ext_getElem?
 intro j
 by_cases hj:j < 24
 ·obtain ⟨fuel',d,q,hdi,he⟩:=array_elem Tryz.underlying199 h (j / 3) (by omega)
  rw [List.getElem?_map] at hdi
  obtain ⟨r,hr,rfl⟩:=Option.map_eq_some_iff.1 hdi
  rw [cells_prop] at he
  have hc:=prop_cells he
  have e1:cs[j]? = (propCells r)[j % 3]?:=by
   rw [← hc,List.getElem?_take_of_lt (by omega),List.getElem?_drop]
   congr 1
   omega
  have e2:propRow.toList[j]? = (propCells r)[j % 3]?:=by
   have hk:j / 3 < 8:=by omega
   have hm:j % 3 < 3:=by omega
   have hjj:j = j / 3 * 3 + j % 3:=by omega
   rw [hjj]
   rw [show (j / 3 * 3 + j % 3) % 3 = j % 3 by omega]
   generalize j / 3 = i at *
   generalize j % 3 = m at *
   obtain rfl | rfl | rfl | rfl | rfl | rfl | rfl | rfl:i = 0 ∨ i = 1 ∨ i = 2 ∨ i = 3 ∨ i = 4 ∨ i = 5 ∨ i = 6 ∨ i = 7:=by omega
   all_goals (cases hr;obtain rfl | rfl | rfl:m = 0 ∨ m = 1 ∨ m = 2:=by omega)
   all_goals rfl
  rw [e1,e2]
 ·rw [List.getElem?_eq_none (by omega),List.getElem?_eq_none (by show 24 ≤ j;omega)]
theorem props_of {W:World} (h:VarReads Tryz.prog W "tapestrier/value.properties" propData):PropsAt W.heap.size W:=by
 obtain ⟨g,t,cs,fuel,p,hg,hty,hvar,hd⟩:=h
 have hg':Tryz.prog.globalNamed "tapestrier/value.properties" = some 0:=by kernel_rfl
 obtain rfl:=Option.some.inj (hg'.symm.trans hg)
 have hty':(Tryz.prog.globals[0]?).map (·.type) = some 199:=by kernel_rfl
 obtain rfl:=Option.some.inj (hty'.symm.trans hty)
 have hcs:cs = propRow:=Array.toList_inj.1 (props_row hd)
 subst hcs
 unfold World.var? at hvar
 rw [hg] at hvar
 simp only [Option.bind_some] at hvar
 split at hvar
 ·rename_i cs' t' fr' he
  have hc:cs' = propRow:=Option.some.inj hvar
  subst hc
  exact ⟨(Array.getElem?_eq_some_iff.1 he).1,_,_,he⟩
 ·cases hvar
/-! ### the lists of the rows -/
/-! ### slices of tokens as arguments -/
end Go.Proofs.YtagbjmocjaaioaaGreatDoor.Vl
