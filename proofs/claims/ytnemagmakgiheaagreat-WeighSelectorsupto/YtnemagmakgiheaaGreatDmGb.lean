/- What the elements of a tree tell of each other: plain facts. -/
import Derived.Test.YtnemagmakgiheaaGreatDmGa
namespace Go.Proofs.YtnemagmakgiheaaGreat.Dm
open Go
theorem parent_of {es:List El} (hO:TreeOk es) {e i c:Nat} {q:El} (hq:es[e]? = some q) (hc:q.ch[i]? = some c):parentV es (c:Int) = (e:Int):=by
 obtain ⟨r,h1,_,h3,_⟩:=hO.chs e q i c hq hc
 unfold parentV
 rw [elAt_yes h1]
 exact h3
theorem place_of {es:List El} (hO:TreeOk es) {e i c:Nat} {q:El} (hq:es[e]? = some q) (hc:q.ch[i]? = some c):placeV es (c:Int) = (i:Int) + 1:=by
 obtain ⟨r,h1,_,_,h4⟩:=hO.chs e q i c hq hc
 unfold placeV
 rw [elAt_yes h1]
 show ((r.place:Nat):Int) = _
 rw [h4]
 omega
theorem children_at {es:List El} {e:Nat} {q:El} (hq:es[e]? = some q):childrenV es (e:Int) = q.ch:=by
 unfold childrenV
 rw [elAt_yes hq]
 rfl
theorem before_at {es:List El} {c:Nat} {r:El} (h:es[c]? = some r):beforeV es (c:Int) = sibV es c (-1):=by
 have hlt:c < es.length:=(List.getElem?_eq_some_iff.1 h).1
 unfold beforeV
 rw [if_pos ⟨by omega,by omega⟩,Int.toNat_natCast]
theorem before_first {es:List El} (hO:TreeOk es) {e c:Nat} {q:El} (hq:es[e]? = some q) (hc:q.ch[0]? = some c):beforeV es (c:Int) = -1:=by
 obtain ⟨r,h1,_,h3,h4⟩:=hO.chs e q 0 c hq hc
 rw [before_at h1,sibV_at h1,h3,if_neg (by omega),h4,nthI_no (by omega)]
theorem before_later {es:List El} (hO:TreeOk es) {e i c d:Nat} {q:El} (hq:es[e]? = some q) (hc:q.ch[i + 1]? = some c) (hd:q.ch[i]? = some d):beforeV es (c:Int) = (d:Int):=by
 obtain ⟨r,h1,_,h3,h4⟩:=hO.chs e q (i + 1) c hq hc
 rw [before_at h1,sibV_at h1,h3,if_neg (by omega),h4,children_at hq,show ((i + 1 + 1:Nat):Int) - 1 + -1 = (i:Int) by omega,nthI_yes hd]
theorem newF_err:∀ (l:List Nd) (es:List El) (x:Int),newF es l = .error x → x = 10 ∨ x = 11
 | [],_,_,h => by cases h
 | n :: l,es,x,h => by
  unfold newF at h
  cases ha:addV es n with
  | error y => rw [ha] at h;cases h;exact addV_err ha
  | ok e2 => rw [ha] at h;exact newF_err l e2 x h
theorem newV_err {l:List Nd} {x:Int} (h:newV l = .error x):x = 3 ∨ x = 10 ∨ x = 11:=by
 unfold newV at h
 split at h
 ·cases h;exact .inl rfl
 ·exact .inr (newF_err l [] x h)
end Go.Proofs.YtnemagmakgiheaaGreat.Dm
/- The order of all elements of a tree: each one, then its children in order, each with all below it: plain facts. -/
namespace Go.Proofs.YtnemagmakgiheaaGreat.Dm
open Go
def chOf (es:List El) (e:Nat):List Nat:=childrenV es (e:Int)
def pre (es:List El):Nat → Nat → List Nat
 | 0,_ => []
 | f + 1,e => e :: (chOf es e).flatMap (pre es f)
theorem ch_mem {es:List El} (hO:TreeOk es) {e c:Nat} (he:e < es.length) (hc:c ∈ chOf es e):e < c ∧ c < es.length:=by
 obtain ⟨q,hq⟩:∃ q,es[e]? = some q:=⟨_,List.getElem?_eq_getElem he⟩
 unfold chOf at hc
 rw [children_at hq] at hc
 obtain ⟨i,hi⟩:=List.mem_iff_getElem?.1 hc
 obtain ⟨r,h1,h2,_⟩:=hO.chs e q i c hq hi
 exact ⟨h2,(List.getElem?_eq_some_iff.1 h1).1⟩
/-! ### upward -/
def upsF (es:List El):Nat → Nat → List Nat
 | 0,_ => []
 | f + 1,e => e :: (if parentV es (e:Int) = -1 then [] else upsF es f (parentV es (e:Int)).toNat)
def ups (es:List El) (e:Nat):List Nat:=upsF es (e + 1) e
theorem par_at {es:List El} {e:Nat} {q:El} (hq:es[e]? = some q):parentV es (e:Int) = q.nd.parent:=by
 unfold parentV
 rw [elAt_yes hq]
 rfl
theorem par_lt {es:List El} (hO:TreeOk es) {e:Nat} (he:e < es.length) (h0:0 < e):∃ p:Nat,parentV es (e:Int) = (p:Int) ∧ p < e:=by
 obtain ⟨q,hq⟩:∃ q,es[e]? = some q:=⟨_,List.getElem?_eq_getElem he⟩
 obtain ⟨p,_,h1,h2,_⟩:=hO.par e q hq h0
 exact ⟨p,(par_at hq).trans h1,h2⟩
theorem par_root {es:List El} (hO:TreeOk es) (he:0 < es.length):parentV es ((0:Nat):Int) = -1:=by
 obtain ⟨q,hq⟩:∃ q,es[0]? = some q:=⟨_,List.getElem?_eq_getElem he⟩
 exact (par_at hq).trans (hO.root q hq).1
def hasNext (es:List El) (x:Nat):Bool:=sibV es x 1 != -1
def upV (es:List El) (e:Nat):Int:=(((ups es e).find? (hasNext es)).map fun x => sibV es x 1).getD (-1)
/-! ### who comes next -/
/-! ### each once -/
def dep (es:List El) (x:Nat):Nat:=(depthV es (x:Int)).toNat
def Ahead (L:List Nat) (a b:Nat):Prop:=∃ s t u,L = s ++ a :: (t ++ b :: u)
theorem Ahead.cons {L:List Nat} {a b:Nat} (x:Nat) (h:Ahead L a b):Ahead (x :: L) a b:=by
 obtain ⟨s,t,u,rfl⟩:=h
 exact ⟨x :: s,t,u,rfl⟩
theorem ch_of_par {es:List El} (hO:TreeOk es) {e:Nat} (he:e < es.length) (h0:0 < e):∃ p:Nat,parentV es (e:Int) = (p:Int) ∧ p < e ∧ e ∈ chOf es p:=by
 obtain ⟨q,hq⟩:∃ q,es[e]? = some q:=⟨_,List.getElem?_eq_getElem he⟩
 obtain ⟨p,r,h1,h2,h3,_,_,h6⟩:=hO.par e q hq h0
 refine ⟨p,(par_at hq).trans h1,h2,?_⟩
 unfold chOf
 rw [children_at h3]
 exact List.mem_iff_getElem?.2 ⟨_,h6⟩
end Go.Proofs.YtnemagmakgiheaaGreat.Dm
