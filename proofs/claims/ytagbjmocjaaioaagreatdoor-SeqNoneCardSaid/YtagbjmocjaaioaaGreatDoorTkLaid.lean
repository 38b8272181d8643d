/- Nodes that came in as arguments: what the walk is told of them. -/
import Derived.Test.YtagbjmocjaaioaaGreatDoorDmMem
import Derived.Test.YtagbjmocjaaioaaGreatDoorRows
import Derived.Test.YtagbjmocjaaioaaGreatDoorCards
import Derived.Test.YtagbjmocjaaioaaGreatDoorTie
import Derived.Test.YtagbjmocjaaioaaGreatDoorTkOf
import Derived.Deep.Strs
import Derived.Deep.Grids
import Derived.ProofKit
import Derived.OpenShut
import Derived.ShutString
import Derived.ChangeOld
import Derived.SizedLaws
import Derived.WalkKit
import Derived.Below
import Derived.Deep.DeepHandedRow
import Derived.Lib.LaidTab
import Derived.Lib.LaidU8T
set_option maxRecDepth 100000
namespace Go.Proofs.YtagbjmocjaaioaaGreatDoor
open Go
theorem ownNone:ownKnob Tryz.prog.godebug = none:=by kernel_rfl
theorem laidOut:laidOutB Tryz.prog = true:=by kernel_rfl
theorem short_string {s:ByteArray} (h:s.data.toList.length ≤ reachBytes):s.size ≤ 281474976710656:=by
 have h2:s.size = s.data.toList.length:=Array.length_toList.symm
 unfold reachBytes at h
 omega
end Go.Proofs.YtagbjmocjaaioaaGreatDoor
namespace Go.Proofs.YtagbjmocjaaioaaGreatDoor.Dm
open Go Go.RowKit Go.ChangeShapes Go.WideShapes Go.ChangeAt
theorem weights_all {H:Type} {P:Program} {e:TypeId}:∀ {ds:List (DataW H)} {d:DataW H},d ∈ ds → ∀ n ∈ d.weights P e,n ∈ DataW.weightsAll P e ds
 | x :: ds,d,h,n,hn => by
  rw [DataW.weightsAll,List.mem_append]
  rcases List.mem_cons.1 h with rfl | h
  ·exact .inl hn
  ·exact .inr (weights_all h n hn)
theorem slice_in {H:Type} {enc:TypeId × Value → H} {W:World} {base fuel:Nat} {v:Value} {x:DataW H × List MemPlace} {t e:TypeId} {α:Type} [Inhabited α] (sz:Nat) (hz:0 < sz) (f:α → List Value) (Good:α → Prop)
  (ht:Tryz.prog.underlying t = some (.slice e)) (hcells:Tryz.prog.cellsOf e = sz) (h:DataW.trod enc Tryz.prog W base (fun _ => true) true fuel t [v] = some x) (hw:∀ n ∈ x.1.weights Tryz.prog t,n ≤ reachBytes)
  (each:∀ n cs y,DataW.trod enc Tryz.prog W base (fun _ => true) true n e cs = some y → (∀ m ∈ y.1.weights Tryz.prog e,m ≤ reachBytes) → cs.length = sz → ∃ a:α,f a = cs ∧ Good a) :
  ∃ l:List α,SlAt sz f W.heap.size W v l ∧ (∀ a ∈ l,Good a) ∧ l.length * Tryz.prog.bytesOf e ≤ reachBytes:=by
 rcases Deep.open_slice ht h with ⟨hcs,_⟩ | ⟨x,len,cap,m,n,D,Pl,hcs,_,hl,hm,hmm,rfl,hel⟩
 ·cases hcs
  exact ⟨[],.inl ⟨rfl,.inl rfl⟩,fun _ h => (by cases h),by simp⟩
 ·cases hcs
  simp only [if_true] at hmm
  subst hmm
  rw [hcells] at hel
  simp only [DataW.weights,ht] at hw
  have hD:∀ i,i < len → ∀ k ∈ (D i).weights Tryz.prog e,k ≤ reachBytes:=fun i hi k hk => hw k (List.mem_cons_of_mem _ (List.mem_append_left _ (weights_all (List.mem_map.2 ⟨i,List.mem_range.2 hi,rfl⟩) k hk)))
  have one:∀ i,i < len → ∃ a:α,Good a ∧ (f a).length = sz ∧ ∀ j u,(f a)[j]? = some u → W.cell? ((x.add (i * sz)).add j) = some u:=fun i hi => by
   obtain ⟨cs',hcs,htr⟩:=hel i (by omega)
   obtain ⟨_,hcl,hcc⟩:=World.cells?_some hcs
   obtain ⟨a,ha,hg⟩:=each n cs' _ htr (hD i hi) hcl
   refine ⟨a,hg,by rw [ha,hcl],fun j u hj => ?_⟩
   rw [ha] at hj
   have hjl:j < sz:=by rw [← hcl];exact (List.getElem?_eq_some_iff.1 hj).1
   rw [hcc j hjl,hj]
  obtain ⟨F,hF⟩:=Deep.choose_lt one
  have hbytes:len * Tryz.prog.bytesOf e ≤ reachBytes:=by
   have h1:=hw _ (List.mem_cons_self ..)
   simp only [List.length_map,List.length_range] at h1
   exact Nat.le_trans (Nat.mul_le_mul_right _ (Nat.le_add_right _ _)) h1
  refine ⟨(List.range len).map F,?_,fun a ha => ?_,by simpa using hbytes⟩
  ·by_cases h0:len = 0
   ·exact .inl ⟨by simp [h0],.inr ⟨_,_,by rw [h0],hm⟩⟩
   ·obtain ⟨b,off,spot⟩:=x
    obtain ⟨_,hf0,hF0⟩:=hF 0 (by omega)
    have hex:∃ u,(f (F 0))[0]? = some u:=⟨_,List.getElem?_eq_getElem (by rw [hf0];exact hz)⟩
    obtain ⟨u0,hu0⟩:=hex
    have hc0:=hF0 0 u0 hu0
    have hspot:spot = none:=by simpa [Addr.add] using World.cell?_spot hc0
    subst hspot
    have key:∀ i j,(((⟨b,off,none⟩:Addr).add (i * sz)).add j) = ⟨b,off + i * sz + j,none⟩:=fun i j => by rw [addr_add,addr_add]
    refine .inr ⟨b,off,_,by simp,by simpa using hl,hm,World.block_lt_of_cell? W ⟨b,off,none⟩ (by rw [key] at hc0;simpa using hc0),fun j a hj i u hu => ?_⟩
    rw [List.getElem?_map] at hj
    obtain ⟨k,hk,rfl⟩:=Option.map_eq_some_iff.1 hj
    obtain ⟨h1,h2⟩:=List.getElem?_eq_some_iff.1 hk
    simp at h1 h2
    subst h2
    have:=(hF j (by omega)).2.2 i u hu
    rwa [key] at this
  ·obtain ⟨i,hi,rfl⟩:=List.mem_map.1 ha
   exact (hF i (List.mem_range.1 hi)).1
theorem cells_str:Tryz.prog.cellsOf 9 = 1:=by kernel_rfl
theorem cells_pair:Tryz.prog.cellsOf 67 = 2:=by kernel_rfl
theorem cells_node:Tryz.prog.cellsOf 65 = 5:=by kernel_rfl
theorem cells_int:Tryz.prog.cellsOf 3 = 1:=by kernel_rfl
theorem bytes_str:Tryz.prog.bytesOf 9 = 16:=by kernel_rfl
theorem bytes_pair:Tryz.prog.bytesOf 67 = 32:=by kernel_rfl
theorem bytes_node:Tryz.prog.bytesOf 65 = 88:=by kernel_rfl
theorem short_lit {H:Type} {s:ByteArray} (hw:∀ m ∈ (DataW.lit (.string s.data.toList):DataW H).weights Tryz.prog 9,m ≤ reachBytes):s.size ≤ 281474976710656:=short_string (hw _ (by simp [DataW.weights]))
theorem strs_in {H:Type} {enc:TypeId × Value → H} {W:World} {base fuel:Nat} {v:Value} {x:DataW H × List MemPlace} (h:DataW.trod enc Tryz.prog W base (fun _ => true) true fuel 62 [v] = some x) (hw:∀ n ∈ x.1.weights Tryz.prog 62,n ≤ reachBytes) :
  ∃ l:List ByteArray,StrsAt W.heap.size W v l ∧ (∀ s ∈ l,s.size ≤ 281474976710656) ∧ l.length * 16 ≤ 140737488355328:=by
 have:Inhabited ByteArray:=⟨⟨#[]⟩⟩
 obtain ⟨l,h1,h2,h3⟩:=slice_in 1 (by decide) stCells (fun s => s.size ≤ 281474976710656) Tryz.underlying62 cells_str h hw (fun n cs y hy hwy hl => by
  obtain ⟨s,rfl,hys,_⟩:=DataW.trod_string Tryz.underlying9 hy
  rw [hys] at hwy
  exact ⟨s,rfl,short_lit hwy⟩)
 rw [bytes_str] at h3
 unfold reachBytes at h3
 exact ⟨l,h1,h2,by omega⟩
theorem pairs_in {H:Type} {enc:TypeId × Value → H} {W:World} {base fuel:Nat} {v:Value} {x:DataW H × List MemPlace} (h:DataW.trod enc Tryz.prog W base (fun _ => true) true fuel 63 [v] = some x) (hw:∀ n ∈ x.1.weights Tryz.prog 63,n ≤ reachBytes) :
  ∃ l:List (ByteArray × ByteArray),PairsAt W.heap.size W v l ∧ (∀ a ∈ l,a.1.size ≤ 281474976710656 ∧ a.2.size ≤ 281474976710656) ∧ l.length * 32 ≤ 140737488355328:=by
 have:Inhabited (ByteArray × ByteArray):=⟨(⟨#[]⟩,⟨#[]⟩)⟩
 obtain ⟨l,h1,h2,h3⟩:=slice_in 2 (by decide) paCells (fun a => a.1.size ≤ 281474976710656 ∧ a.2.size ≤ 281474976710656) Tryz.underlying63 cells_pair h hw (fun n cs y hy hwy hl => by
  obtain ⟨xs,n',_,rfl,_,hxl,hf⟩:=DataW.trod_struct Tryz.underlying67 hy
  match cs,hl with
  | [c0,c1],_ =>
   match xs,hxl with
   | [y0,y1],_ =>
    have f0:=hf 0 _ rfl
    have f1:=hf 1 _ rfl
    simp only [List.getElem?_cons_zero,List.getElem?_cons_succ] at f0 f1
    obtain ⟨k0,g0,e0,_⟩:=DataW.trod_string Tryz.underlying9 f0
    obtain ⟨k1,g1,e1,_⟩:=DataW.trod_string Tryz.underlying9 f1
    cases g0
    cases g1
    simp only [DataW.weights,Tryz.underlying67] at hwy
    refine ⟨(k0,k1),rfl,short_lit (H:=H) (fun m hm => hwy m (DataW.weights_mem_each (j:=0) rfl rfl m ?_)),short_lit (H:=H) (fun m hm => hwy m (DataW.weights_mem_each (j:=1) rfl rfl m ?_))⟩
    ·rw [e0];exact hm
    ·rw [e1];exact hm)
 rw [bytes_pair] at h3
 unfold reachBytes at h3
 exact ⟨l,h1,h2,by omega⟩
theorem node_in {H:Type} {enc:TypeId × Value → H} {W:World} {base n:Nat} {cs:List Value} {y:DataW H × List MemPlace} (hy:DataW.trod enc Tryz.prog W base (fun _ => true) true n 65 cs = some y) (hwy:∀ m ∈ y.1.weights Tryz.prog 65,m ≤ reachBytes) :
  ∃ a:Nv,nvCells a = cs ∧ StrsAt W.heap.size W a.cv a.nd.cls ∧ PairsAt W.heap.size W a.av a.nd.ats ∧ NdOk a.nd ∧ (Lit.int .i64 a.nd.parent).wf = true:=by
 obtain ⟨xs,n',_,rfl,hl,hxl,hf⟩:=DataW.trod_struct Tryz.underlying65 hy
 rw [cells_node] at hl
 match cs,hl with
 | [c0,c1,c2,c3,c4],_ =>
  match xs,hxl with
  | [y0,y1,y2,y3,y4],_ =>
   have f0:=hf 0 _ rfl
   have f1:=hf 1 _ rfl
   have f2:=hf 2 _ rfl
   have f3:=hf 3 _ rfl
   have f4:=hf 4 _ rfl
   simp only [List.getElem?_cons_zero,List.getElem?_cons_succ] at f0 f1 f2 f3 f4
   obtain ⟨k0,g0,e0,w0⟩:=DataW.trod_int Tryz.underlying3 f0
   obtain ⟨k1,g1,e1,_⟩:=DataW.trod_string Tryz.underlying9 f1
   obtain ⟨k2,g2,e2,_⟩:=DataW.trod_string Tryz.underlying9 f2
   simp only [DataW.weights,Tryz.underlying65] at hwy
   have f3':DataW.trod enc Tryz.prog W base (fun _ => true) true n' 62 [c3] = some y3:=f3
   have f4':DataW.trod enc Tryz.prog W base (fun _ => true) true n' 63 [c4] = some y4:=f4
   obtain ⟨l3,a3,b3,d3⟩:=strs_in f3' (fun m hm => hwy m (DataW.weights_mem_each (j:=3) rfl rfl m hm))
   obtain ⟨l4,a4,b4,d4⟩:=pairs_in f4' (fun m hm => hwy m (DataW.weights_mem_each (j:=4) rfl rfl m hm))
   cases g0
   cases g1
   cases g2
   refine ⟨⟨⟨k0,k1,k2,l3,l4⟩,c3,c4⟩,rfl,a3,a4,⟨short_lit (H:=H) (fun m hm => hwy m (DataW.weights_mem_each (j:=1) rfl rfl m ?_)),short_lit (H:=H) (fun m hm => hwy m (DataW.weights_mem_each (j:=2) rfl rfl m ?_)),b3,b4,d3,d4⟩,w0⟩
   ·rw [e1];exact hm
   ·rw [e2];exact hm
theorem nodesAt_of_reads {H:Type} {enc:TypeId × Value → H} {W:World} {a:Option Addr} {len cap:Nat} {d:DataW H} {p:List MemPlace}
  (h:DataW.Trod enc Tryz.prog W 0 (fun _ => true) true 23 (.slice a len cap) d p) (hw:∀ n ∈ d.weights Tryz.prog 23,n ≤ reachBytes) :
  ∃ l:List Nv,NodesAt W.heap.size W (.slice a len cap) l ∧ (∀ n ∈ l,NdOk n.nd) ∧ l.length * 88 ≤ 140737488351232:=by
 obtain ⟨fuel,hf⟩:=h
 have:Inhabited Nv:=⟨⟨zeroNd,.bool false,.bool false⟩⟩
 obtain ⟨l,h1,h2,h3⟩:=slice_in 5 (by decide) nvCells (fun a => StrsAt W.heap.size W a.cv a.nd.cls ∧ PairsAt W.heap.size W a.av a.nd.ats ∧ NdOk a.nd) Tryz.underlying23 cells_node (v:=.slice a len cap) hf hw (fun n cs y hy hwy _ => by
  obtain ⟨a,h1,h2,h3,h4,_⟩:=node_in hy hwy
  exact ⟨a,h1,h2,h3,h4⟩)
 rw [bytes_node] at h3
 unfold reachBytes at h3
 exact ⟨l,⟨h1,fun n hn => (h2 n hn).1,fun n hn => (h2 n hn).2.1⟩,fun n hn => (h2 n hn).2.2,by omega⟩
end Go.Proofs.YtagbjmocjaaioaaGreatDoor.Dm

/- From what the row lists of the tables to what the walk asks of the world; and a world that holds them, for the witness. -/
namespace Go.Proofs.YtagbjmocjaaioaaGreatDoor
open Go Go.RowKit Go.Shelf Go.Lib
def u8ren:Go.Shelf.Ren:=⟨fun n => n,fun | 5 => 5 | 119 => 265 | 138 => 267 | 139 => 268 | n => n,fun | 3 => 1 | 4 => 2 | n => n⟩
theorem u8types:U8Types Tryz.prog u8ren:=⟨Tryz.underlying5,Tryz.underlying265,Tryz.underlying267,Tryz.underlying268⟩
theorem u8extra:U8Extra Tryz.prog u8ren:=⟨by kernel_rfl,by kernel_rfl,by kernel_rfl,by kernel_rfl,by kernel_rfl,by kernel_rfl,by kernel_rfl⟩
theorem laid_first_eq:Rows.laid_unicode_utf8_first = firstData:=by kernel_rfl
theorem laid_accept_eq:(Rows.laid_unicode_utf8_acceptRanges:DataW Unit) = acceptData:=by kernel_rfl
/-! ### the table of signs -/
def signNums:List (Int × Int):=[(58,11),(59,12),(44,13),(123,14),(125,15),(40,16),(41,17),(91,18),(93,19)]
def signData:DataW Unit:=.agg (signNums.map fun x => .agg ([x.1,x.2].map fun z => .lit (.int .i64 z)))
theorem laid_signs_eq:(Rows.laid_tapestrier_tok_signs:DataW Unit) = signData:=by kernel_rfl
theorem cells2:Tryz.prog.cellsOf 292 = 2:=by kernel_rfl
theorem cells1:Tryz.prog.cellsOf 3 = 1:=by kernel_rfl
theorem signs_len {W:World} {fuel:Nat} {cs:List Value} {p:List MemPlace} (h:DataW.trod (fun _ => ()) Tryz.prog W 0 (fun _ => true) false fuel 293 cs = some (signData,p)):cs.length = 18:=by
 have hc:Tryz.prog.cellsOf 293 = 18:=by kernel_rfl
 cases fuel with
 | zero => simp [DataW.trod] at h
 | succ fuel =>
  simp only [DataW.trod,Tryz.underlying293,hc,cells2] at h
  split at h
  ·rename_i hl
   simpa using hl
  ·cases h
theorem signs_at {W:World} {fuel:Nat} {cs:List Value} {p:List MemPlace} (h:DataW.trod (fun _ => ()) Tryz.prog W 0 (fun _ => true) false fuel 293 cs = some (signData,p)) (i:Nat) (hi:i < 9) :
  ∃ x,signNums[i]? = some x ∧ cs[i * 2]? = some (.int .i64 x.1) ∧ cs[i * 2 + 1]? = some (.int .i64 x.2):=by
 obtain ⟨fuel',d,q,hdi,he⟩:=array_elem Tryz.underlying293 h i hi
 rw [List.getElem?_map] at hdi
 obtain ⟨x,hx,rfl⟩:=Option.map_eq_some_iff.1 hdi
 rw [cells2] at he
 have hcs:=ints_of_struct Tryz.underlying292 (fun j f hj => by
  match j,hj with
  | 0,hj => simp at hj;subst hj;exact ⟨Tryz.underlying3,rfl,cells1⟩
  | 1,hj => simp at hj;subst hj;exact ⟨Tryz.underlying3,rfl,cells1⟩
  | j + 2,hj => simp at hj) (by rw [cells2];rfl) he
 have e0:=congrArg (·[0]?) hcs
 have e1:=congrArg (·[1]?) hcs
 simp only [List.getElem?_take,List.getElem?_drop] at e0 e1
 exact ⟨x,hx,by simpa using e0,by simpa using e1⟩
theorem signs_row {W:World} {fuel:Nat} {cs:List Value} {p:List MemPlace} (h:DataW.trod (fun _ => ()) Tryz.prog W 0 (fun _ => true) false fuel 293 cs = some (signData,p)):cs = signRow.toList:=by
 have hl:=signs_len h
 apply List.ext_getElem?
 intro j
 by_cases hj:j < 18
 ·obtain ⟨x,hx,h0,h1⟩:=signs_at h (j / 2) (by omega)
  obtain e | e:j = j / 2 * 2 ∨ j = j / 2 * 2 + 1:=by omega
  all_goals
   have hk:j / 2 < 9:=by omega
   generalize j / 2 = i at *
   subst e
   obtain rfl | rfl | rfl | rfl | rfl | rfl | rfl | rfl | rfl:i = 0 ∨ i = 1 ∨ i = 2 ∨ i = 3 ∨ i = 4 ∨ i = 5 ∨ i = 6 ∨ i = 7 ∨ i = 8:=by omega
   all_goals (cases hx;first | exact h0 | exact h1)
 ·rw [List.getElem?_eq_none (by omega),List.getElem?_eq_none (by show 18 ≤ j;omega)]
theorem signs_of {W:World} (h:VarReads Tryz.prog W "tapestrier/tok.signs" signData):SignsAt W.heap.size W:=by
 obtain ⟨g,t,cs,fuel,p,hg,hty,hvar,hd⟩:=h
 have hg':Tryz.prog.globalNamed "tapestrier/tok.signs" = some 4:=by kernel_rfl
 obtain rfl:=Option.some.inj (hg'.symm.trans hg)
 have hty':(Tryz.prog.globals[4]?).map (·.type) = some 293:=by kernel_rfl
 obtain rfl:=Option.some.inj (hty'.symm.trans hty)
 have hcs:cs = signRow:=Array.toList_inj.1 (signs_row hd)
 subst hcs
 unfold World.var? at hvar
 rw [hg] at hvar
 simp only [Option.bind_some] at hvar
 split at hvar
 ·rename_i cs' t' fr' he
  have hc:cs' = signRow:=Option.some.inj hvar
  subst hc
  exact ⟨(Array.getElem?_eq_some_iff.1 he).1,_,_,he⟩
 ·cases hvar
/-! ### the lists of the rows -/
theorem tabs_of_reads {W:World} {L:List (String × DataW Unit)} (h:laidMet Tryz.prog L W) (hS:W.ShapedOpen Tryz.prog) (m1:("unicode/utf8.first",Rows.laid_unicode_utf8_first) ∈ L) (m2:("unicode/utf8.acceptRanges",Rows.laid_unicode_utf8_acceptRanges) ∈ L) (m3:("tapestrier/tok.signs",Rows.laid_tapestrier_tok_signs) ∈ L):LTabs W.heap.size W:=by
 have hT:Lib.Utf8Tabs 1 2 W:=utf8Tabs_of_readsT u8types u8extra
  (by rw [← laid_first_eq];exact Lib.laidMet.reads h m1) (by rw [← laid_accept_eq];exact Lib.laidMet.reads h m2)
 obtain ⟨m,hm⟩:=Tryz.laysM145.s1_3 W hS
 exact ⟨⟨World.block_lt_of_cell? W ⟨_,0,none⟩ (hT.1 0 (by omega)),World.block_lt_of_cell? W ⟨_,2 * 0,none⟩ (hT.2 0 (by omega)).1,hT⟩,signs_of (by rw [← laid_signs_eq];exact Lib.laidMet.reads h m3),World.block_lt_of_cell? W ⟨_,0,none⟩ hm,⟨m,hm⟩,trivial⟩
def firstCells:Array Value:=(firstTab.map fun z => Value.int .u8 z).toArray
def acceptCells:Array Value:=((List.range 16).flatMap fun i => [Value.int .u8 (accLo i),Value.int .u8 (accHi i)]).toArray
def newCells (cs:Array Value):Obj → Obj
 | .cells _ t frozen => .cells cs t frozen
 | o => o
end Go.Proofs.YtagbjmocjaaioaaGreatDoor
