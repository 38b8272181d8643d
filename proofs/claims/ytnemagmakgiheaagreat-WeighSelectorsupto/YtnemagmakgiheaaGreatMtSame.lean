/- The document's own matching and match's are one: plain facts; nil trees; the document's Compound out of range. -/
import Derived.Test.YtnemagmakgiheaaGreatMtArgs
import Derived.Test.YtnemagmakgiheaaGreatMtTrees
import Derived.Test.YtnemagmakgiheaaGreatRfGe
namespace Go.Proofs.YtnemagmakgiheaaGreat.Mt
open Go.Proofs.YtnemagmakgiheaaGreat.Tre
open Go Go.RowKit Dm Go.Proofs.YtnemagmakgiheaaGreat.Wg
/-! ### cut -/
theorem cp_cut (Q:Any) (d:Nat) (hQ:∀ l e,Q (cutL d l) e = Q l e) (es:List El) (c:Cp) (e:Nat):compV Q es (cutC d c) e = compV Q es c e:=by
 unfold compV
 rw [show namedV (nodeV es (e:Int)) (cutC d c) = namedV (nodeV es (e:Int)) c from rfl]
 congr 1
 show (c.pss.map (cutP d)).all _ = c.pss.all _
 rw [List.all_map]
 congr 1
 funext p
 show pseudoV Q es (cutP d p) e = pseudoV Q es p e
 unfold pseudoV
 rw [show (cutP d p).kind = p.kind from rfl,show (cutP d p).list = cutL d p.list from rfl,hQ]
 rfl
theorem partAt_cut (d:Nat) (s:Sel) (k:Nat):partAt (cutS d s) k = ((partAt s k).1,cutC d (partAt s k).2):=by
 unfold partAt cutS
 simp only [List.getD,List.getElem?_map]
 cases s[k]? <;> rfl
theorem upto_cut (Q:Any) (d:Nat) (hQ:∀ l e,Q (cutL d l) e = Q l e) (es:List El) (s:Sel):∀ k e,uptoV Q es (cutS d s) k e = uptoV Q es s k e
 | 0,e => by
  unfold uptoV
  rw [partAt_cut,cp_cut Q d hQ]
 | k + 1,e => by
  unfold uptoV
  rw [partAt_cut,cp_cut Q d hQ]
  have:uptoV Q es (cutS d s) k = uptoV Q es s k:=funext (upto_cut Q d hQ es s k)
  rw [this]
theorem sel_cut (Q:Any) (d:Nat) (hQ:∀ l e,Q (cutL d l) e = Q l e) (es:List El) (s:Sel) (e:Nat):selV Q es (cutS d s) e = selV Q es s e:=by
 unfold selV
 rw [upto_cut Q d hQ,show (cutS d s).length = s.length from List.length_map ..]
theorem any_cut (es:List El):∀ d l e,anyV es d (cutL d l) e = anyV es d l e
 | 0,_,_ => rfl
 | d + 1,l,e => by
  rw [cutL_succ]
  show (l.map (cutS d)).any _ = l.any _
  rw [List.any_map]
  congr 1
  funext s
  exact sel_cut _ d (any_cut es d) es s e
theorem cutL_two:∀ d l,cutL d (cutL (d + 1) l) = cutL d l
 | 0,_ => rfl
 | d + 1,l => by
  rw [cutL_succ,cutL_succ,cutL_succ,List.map_map]
  congr 1
  funext s
  show cutS d (cutS (d + 1) s) = cutS d s
  unfold cutS
  rw [List.map_map]
  congr 1
  funext p
  show (p.1,cutC d (cutC (d + 1) p.2)) = (p.1,cutC d p.2)
  congr 1
  unfold cutC
  simp only [Cp.tag,Cp.ids,Cp.classes,Cp.attrs,Cp.pss,List.map_map]
  congr 2
  funext q
  show cutP d (cutP (d + 1) q) = cutP d q
  unfold cutP
  simp only [Ps.kind,Ps.a,Ps.b,Ps.list]
  rw [cutL_two d]
theorem cutC_two (d:Nat) (c:Cp):cutC d (cutC (d + 1) c) = cutC d c:=by
 unfold cutC
 simp only [Cp.tag,Cp.ids,Cp.classes,Cp.attrs,Cp.pss,List.map_map]
 congr 2
 funext q
 show cutP d (cutP (d + 1) q) = cutP d q
 unfold cutP
 simp only [Ps.kind,Ps.a,Ps.b,Ps.list]
 rw [cutL_two d]
theorem cutS_two (d:Nat) (s:Sel):cutS d (cutS (d + 1) s) = cutS d s:=by
 unfold cutS
 rw [List.map_map]
 congr 1
 funext p
 show (p.1,cutC d (cutC (d + 1) p.2)) = (p.1,cutC d p.2)
 rw [cutC_two]
/-! ### how deep -/
theorem lists_deep (f:List Sel → Bool) (g:List Sel → Bool) (h:∀ l,f l = !g l) (s:Sel):(listsV s).all f = !(s.any (fun p => p.2.pss.any (fun q => isList q && g q.list))):=by
 rw [Bool.eq_iff_iff]
 simp only [listsV,List.all_eq_true,List.mem_flatMap,List.mem_map,List.mem_filter,Bool.not_eq_true',List.any_eq_false,Bool.and_eq_true,not_and,Bool.not_eq_true]
 constructor
 ·intro H p hp q hq hl
  have:=H q.list ⟨p,hp,q,⟨hq,hl⟩,rfl⟩
  rw [h] at this
  simpa using this
 ·rintro H l ⟨p,hp,q,⟨hq,hl⟩,rfl⟩
  rw [h,H p hp q hq hl]
  rfl
theorem fits_deep:∀ d s,fitsV d s = !deepS d s
 | 0,s => by
  unfold fitsV deepS
  rw [lists_deep (fun _ => false) (fun _ => true) (fun _ => rfl),Bool.not_or]
  congr 1
  ·rw [Bool.eq_iff_iff];simp
  ·simp only [Bool.and_true]
 | d + 1,s => by
  unfold fitsV deepS
  rw [lists_deep (fun l => l.all (fitsV d)) (fun l => l.any (deepS d)) (fun l => by
   rw [Bool.eq_iff_iff]
   simp only [List.all_eq_true,Bool.not_eq_true',List.any_eq_false,fits_deep d,Bool.not_eq_true]),Bool.not_or]
  congr 1
  rw [Bool.eq_iff_iff];simp
theorem same_sel (es:List El) (e:Int) (s:Sel):Rf.selectorV es e (cutS 8 s) = selectorV es e s:=by
 unfold Rf.selectorV selectorV
 rw [deepS_cut,sel_cut _ 8 (any_cut es 8),fits_deep]
theorem parts_oneR {d:Nat} {W:World} {B:Nat} {comb:Int} {c:Cp} {vi vc va vp:Value} (k:Blk W B 48 [.int .i64 comb,.string c.tag,vi,vc,va,vp]) (hc:CpC (SelsR d W.heap.size W) W.heap.size W [.string c.tag,vi,vc,va,vp] c) :
  PartsR d W.heap.size W (.slice (some ⟨B,0,none⟩) 1 1) [(comb,c)]:=by
 refine .inr ⟨B,0,1,rfl,Nat.le_refl _,by unfold maxLen;omega,k.lt,fun j x hx => ?_⟩
 have hj:j = 0:=by have:=(List.getElem?_eq_some_iff.1 hx).1;simpa using this
 subst hj
 obtain rfl:(comb,c) = x:=by simpa using hx
 refine ⟨[.int .i64 comb,.string c.tag,vi,vc,va,vp],rfl,⟨_,rfl,hc⟩,fun i u hu => ?_⟩
 rw [cell_of_block (show W.heap[B]? = _ from k)]
 simpa using hu
/-! ### nil -/
/-! ### the document's Compound where there is no element -/
end Go.Proofs.YtnemagmakgiheaaGreat.Mt
