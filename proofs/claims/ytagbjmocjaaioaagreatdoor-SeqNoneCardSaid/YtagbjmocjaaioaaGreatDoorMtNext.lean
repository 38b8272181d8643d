/- The elements ahead: plain facts. -/
import Derived.Test.YtagbjmocjaaioaaGreatDoorMtSpec
namespace Go.Proofs.YtagbjmocjaaioaaGreatDoor.Mt
open Go.Proofs.YtagbjmocjaaioaaGreatDoor.Tre
open Go Dm
theorem parentV_lt {es:List El} (hO:TreeOk es) {k:Nat} (hk:k < es.length):parentV es k = -1 ∨ ∃ j:Nat,parentV es k = j ∧ j < k:=by
 have hq:es[k]? = some es[k]:=List.getElem?_eq_getElem hk
 have hV:parentV es (k:Int) = es[k].nd.parent:=by unfold parentV;rw [elAt_yes hq];rfl
 rw [hV]
 rcases Nat.eq_zero_or_pos k with rfl | h0
 ·exact .inl (hO.root _ hq).1
 ·obtain ⟨p,q,h1,h2,_⟩:=hO.par k _ hq h0
  exact .inr ⟨p,h1,h2⟩
theorem beforeV_lt {es:List El} (hO:TreeOk es) {k:Nat} (hk:k < es.length):beforeV es k = -1 ∨ ∃ j:Nat,beforeV es k = j ∧ j < k:=by
 have hq:es[k]? = some es[k]:=List.getElem?_eq_getElem hk
 unfold beforeV
 rw [if_pos ⟨by omega,by omega⟩,Int.toNat_natCast,sibV_at hq]
 rcases Nat.eq_zero_or_pos k with rfl | h0
 ·rw [if_pos (hO.root _ hq).1]
  exact .inl rfl
 ·obtain ⟨p,q,h1,h2,h3,_,h5,h6⟩:=hO.par k _ hq h0
  rw [if_neg (by omega),h1]
  have hc:childrenV es (p:Int) = q.ch:=by unfold childrenV;rw [elAt_yes h3];rfl
  rw [hc]
  by_cases hp:es[k].place = 1
  ·exact .inl (nthI_no (by omega))
  ·right
   have hi:((es[k].place:Int) - 1 + -1) = ((es[k].place - 2:Nat):Int):=by omega
   rw [hi]
   have hlt:=(List.getElem?_eq_some_iff.1 h6).1
   have hx:q.ch[es[k].place - 2]? = some (q.ch[es[k].place - 2]'(by omega)):=List.getElem?_eq_getElem (by omega)
   rw [nthI_yes hx]
   refine ⟨_,rfl,?_⟩
   have hr:=hO.rise p q h3
   rw [List.pairwise_iff_getElem] at hr
   have:=hr (es[k].place - 2) (es[k].place - 1) (by omega) hlt (by omega)
   rwa [(List.getElem?_eq_some_iff.1 h6).2] at this
theorem nextV_lt {es:List El} (hO:TreeOk es) {k:Nat} (hk:k < es.length) (comb:Int):nextV es comb k = -1 ∨ ∃ j:Nat,nextV es comb k = j ∧ j < k:=by
 unfold nextV
 split
 ·exact parentV_lt hO hk
 ·split
  ·exact beforeV_lt hO hk
  ·exact .inl rfl
def restV (es:List El) (comb:Int) (f:Nat) (y:Int):List Nat:=if y = -1 then [] else y.toNat :: (if farV comb then chain es comb f y else [])
theorem chain_succ (es:List El) (comb:Int) (f:Nat) (x:Int):chain es comb (f + 1) x = restV es comb f (nextV es comb x):=rfl
theorem restV_end (es:List El) (comb:Int) (f:Nat):restV es comb f (-1) = []:=if_pos rfl
theorem restV_at (es:List El) (comb:Int) (f j:Nat):restV es comb f (j:Int) = j :: (if farV comb then chain es comb f j else []):=by
 unfold restV
 rw [if_neg (by omega),Int.toNat_natCast]
theorem chain_fuel {es:List El} (hO:TreeOk es) (comb:Int):∀ (f y:Nat),y < es.length → y < f → chain es comb f y = chain es comb (y + 1) y:=by
 intro f
 induction f using Nat.strongRecOn with
 | _ f ih =>
  intro y hy hf
  obtain ⟨f',rfl⟩:∃ f',f = f' + 1:=⟨f - 1,by omega⟩
  rw [chain_succ,chain_succ]
  rcases nextV_lt hO hy comb with h | ⟨j,h,hj⟩
  ·rw [h,restV_end,restV_end]
  ·rw [h,restV_at,restV_at,ih f' (by omega) j (by omega) (by omega)]
   by_cases hy0:y = f'
   ·rw [hy0,ih f' (by omega) j (by omega) (by omega)]
   ·rw [ih y (by omega) j (by omega) (by omega)]
theorem chain_tail {es:List El} (hO:TreeOk es) (comb:Int):∀ (f x:Nat) (a:List Nat) (y:Nat) (b:List Nat),x < es.length → x < f → chain es comb f x = a ++ y :: b → y < es.length ∧ b = if farV comb then aheadV es comb y else []:=by
 intro f
 induction f with
 | zero => intro x a y b _ h;omega
 | succ f ih =>
  intro x a y b hx hf h
  rw [chain_succ] at h
  rcases nextV_lt hO hx comb with hn | ⟨j,hn,hj⟩
  ·rw [hn,restV_end] at h
   simp at h
  ·rw [hn,restV_at] at h
   cases a with
   | nil =>
    simp only [List.nil_append,List.cons.injEq] at h
    obtain ⟨rfl,rfl⟩:=h
    refine ⟨by omega,?_⟩
    cases hfar:farV comb with
    | false => simp
    | true => simp only [if_true];exact chain_fuel hO comb f j (by omega) (by omega)
   | cons z a =>
    simp only [List.cons_append,List.cons.injEq] at h
    obtain ⟨_,h⟩:=h
    cases hfar:farV comb with
    | false => rw [hfar] at h;simp at h
    | true =>
     rw [hfar,if_pos rfl] at h
     have:=ih j a y b (by omega) (by omega) h
     rwa [hfar] at this
theorem ahead_tail {es:List El} (hO:TreeOk es) {comb:Int} {e y:Nat} {a b:List Nat} (he:e < es.length) (h:aheadV es comb e = a ++ y :: b):y < es.length ∧ b = if farV comb then aheadV es comb y else []:=
 chain_tail hO comb (e + 1) e a y b he (Nat.lt_succ_self _) h
end Go.Proofs.YtagbjmocjaaioaaGreatDoor.Mt
