/- Sets that came in as arguments: what the walk is told of them. -/
import Derived.Test.YtcmmdojlhfmddaaGreatCsSeq
import Derived.Test.YtcmmdojlhfmddaaGreatSelArgs
set_option maxRecDepth 100000
namespace Go.Proofs.YtcmmdojlhfmddaaGreat.Co
open Go.Proofs.YtcmmdojlhfmddaaGreat.Tre
open Go Go.ChangeShapes Go.WideShapes Go.ChangeAt Go.RowKit Wg Cs
def setA (s:St):Value:=.agg #[.int .i64 s.prop,.int .i64 s.kind,.int .i64 s.n,.bool s.imp]
theorem setA_of_reads {H:Type} {enc:TypeId × Value → H} {W:World} {base:Nat} {v:Value} {d:DataW H} {p:List MemPlace}
  (h:DataW.Trod enc Tryz.prog W 0 (fun _ => true) true 25 v d p) (hv:Value.okWide Tryz.prog W .any base 25 v) (_hw:∀ n ∈ d.weights Tryz.prog 25,n ≤ reachBytes):∃ s:St,v = setA s ∧ True:=by
 obtain ⟨cs,rfl,hl⟩:=okWide_struct Tryz.underlying25 hv
 obtain ⟨fuel,hf⟩:=h
 have hl4:cs.toList.length = 4:=by
  rw [Array.length_toList,hl];kernel_rfl
 have hcs:cs = cs.toList.toArray:=rfl
 have hf2:DataW.trod enc Tryz.prog W 0 (fun _ => true) true fuel 25 cs.toList = some (d,p):=hf
 generalize cs.toList = l at *
 match l,hl4 with
 | [c0,c1,c2,c3],_ =>
  obtain ⟨xs,n',_,_,_,hxl,hf⟩:=DataW.trod_struct Tryz.underlying25 hf2
  match xs,hxl with
  | [y0,y1,y2],_ =>
   have f0:=hf 0 _ rfl
   have f1:=hf 1 _ rfl
   have f2:=hf 2 _ rfl
   simp only [List.getElem?_cons_zero,List.getElem?_cons_succ] at f0 f1 f2
   have f0':DataW.trod enc Tryz.prog W 0 (fun _ => true) true n' 3 [c0] = some y0:=f0
   have f1':DataW.trod enc Tryz.prog W 0 (fun _ => true) true n' 23 [c1,c2] = some y1:=f1
   have f2':DataW.trod enc Tryz.prog W 0 (fun _ => true) true n' 4 [c3] = some y2:=f2
   obtain ⟨k0,e0,_,_⟩:=DataW.trod_int Tryz.underlying3 f0'
   obtain ⟨b,e3,_⟩:=DataW.trod_bool Tryz.underlying4 f2'
   obtain ⟨zs,m',_,_,_,hzl,hg⟩:=DataW.trod_struct Tryz.underlying23 f1'
   match zs,hzl with
   | [z0,z1],_ =>
    have g0:=hg 0 _ rfl
    have g1:=hg 1 _ rfl
    simp only [List.getElem?_cons_zero,List.getElem?_cons_succ] at g0 g1
    have g0':DataW.trod enc Tryz.prog W 0 (fun _ => true) true m' 3 [c1] = some z0:=g0
    have g1':DataW.trod enc Tryz.prog W 0 (fun _ => true) true m' 3 [c2] = some z1:=g1
    obtain ⟨k1,e1,_,_⟩:=DataW.trod_int Tryz.underlying3 g0'
    obtain ⟨k2,e2,_,_⟩:=DataW.trod_int Tryz.underlying3 g1'
    cases e0
    cases e1
    cases e2
    cases e3
    exact ⟨⟨k0,k1,k2,b⟩,by rw [hcs];rfl,trivial⟩
end Go.Proofs.YtcmmdojlhfmddaaGreat.Co
