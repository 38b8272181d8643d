/- What is so of every tree that dom.New makes: plain facts. -/
import Derived.Test.YtagbjmocjaaioaaGreatDoorDmSpec
namespace Go.Proofs.YtagbjmocjaaioaaGreatDoor.Dm
open Go
def sumCh:List El → Nat
 | [] => 0
 | e :: l => e.ch.length + sumCh l
theorem sumCh_append (a b:List El):sumCh (a ++ b) = sumCh a + sumCh b:=by
 induction a with
 | nil => simp [sumCh]
 | cons x a ih => simp [sumCh,ih,Nat.add_assoc]
theorem sumCh_set:∀ (l:List El) (p:Nat) (q q':El),l[p]? = some q → q'.ch.length = q.ch.length + 1 → sumCh (l.set p q') = sumCh l + 1
 | [],p,q,q',h,_ => by simp at h
 | x :: l,0,q,q',h,hl => by
  obtain rfl:x = q:=by simpa using h
  simp [sumCh,hl]
  omega
 | x :: l,p + 1,q,q',h,hl => by
  have:=sumCh_set l p q q' (by simpa using h) hl
  simp [sumCh,this]
  omega
structure TreeOk (es:List El):Prop where
 root:∀ e,es[0]? = some e → e.nd.parent = -1 ∧ e.depth = 0 ∧ e.place = 1
 par:∀ (k:Nat) (e:El),es[k]? = some e → 0 < k → ∃ (p:Nat) (q:El),e.nd.parent = (p:Int) ∧ p < k ∧ es[p]? = some q ∧ e.depth = q.depth + 1 ∧ 1 ≤ e.place ∧ q.ch[e.place - 1]? = some k
 chs:∀ (p:Nat) (q:El) (i c:Nat),es[p]? = some q → q.ch[i]? = some c → ∃ e,es[c]? = some e ∧ p < c ∧ e.nd.parent = (p:Int) ∧ e.place = i + 1
 deep:∀ (k:Nat) (e:El),es[k]? = some e → e.depth ≤ 256
 few:∀ (k:Nat) (e:El),es[k]? = some e → e.ch.length ≤ es.length
 rise:∀ (k:Nat) (e:El),es[k]? = some e → e.ch.Pairwise (· < ·)
 sum:sumCh es = es.length - 1
theorem TreeOk.nil:TreeOk []:=⟨fun _ h => (by simp at h),fun _ _ h => (by simp at h),fun _ _ _ _ h => (by simp at h),fun _ _ h => (by simp at h),fun _ _ h => (by simp at h),fun _ _ h => (by simp at h),rfl⟩
theorem one_at {e f:El} {k:Nat} (h:[e][k]? = some f):k = 0 ∧ f = e:=by
 have:k = 0:=by
  have:=(List.getElem?_eq_some_iff.1 h).1
  simpa using this
 subst this
 exact ⟨rfl,by simpa using h.symm⟩
theorem TreeOk.one (n:Nd) (hp:n.parent = -1):TreeOk [⟨lowN n,0,1,[]⟩]:=by
 refine ⟨fun e h => ?_,fun k e h hk => ?_,fun p q i c h hc => ?_,fun k e h => ?_,fun k e h => ?_,fun k e h => ?_,rfl⟩
 ·obtain rfl:=(one_at h).2
  exact ⟨hp,rfl,rfl⟩
 ·have:=(one_at h).1
  omega
 ·obtain rfl:=(one_at h).2
  simp at hc
 ·obtain rfl:=(one_at h).2
  exact Nat.zero_le _
 ·obtain rfl:=(one_at h).2
  exact Nat.zero_le _
 ·obtain rfl:=(one_at h).2
  exact List.Pairwise.nil
theorem snoc_at {l:List El} {x e:El} {k:Nat} (h:(l ++ [x])[k]? = some e):l[k]? = some e ∨ (k = l.length ∧ e = x):=by
 by_cases hk:k < l.length
 ·rw [List.getElem?_append_left hk] at h
  exact .inl h
 ·rw [List.getElem?_append_right (by omega)] at h
  obtain ⟨h1,h2⟩:=one_at h
  exact .inr ⟨by omega,h2⟩
theorem set_at' {l:List El} {p j:Nat} {x y:El} (h:(l.set p x)[j]? = some y):(j = p ∧ y = x) ∨ (j ≠ p ∧ l[j]? = some y):=by
 rw [List.getElem?_set] at h
 by_cases e:p = j
 ·rw [if_pos e] at h
  split at h
  ·exact .inl ⟨e.symm,by simpa using h.symm⟩
  ·cases h
 ·rw [if_neg e] at h
  exact .inr ⟨fun h' => e h'.symm,h⟩
theorem grown_at {es:List El} {p:Nat} {q:El} (hq:es[p]? = some q) (x:El) {k:Nat} {e:El} (h:es[k]? = some e) :
  ∃ e',(growV es p q es.length ++ [x])[k]? = some e' ∧ e'.nd = e.nd ∧ e'.depth = e.depth ∧ e'.place = e.place ∧ (k ≠ p → e'.ch = e.ch) ∧ (k = p → e'.ch = e.ch ++ [es.length]):=by
 have hk:k < es.length:=(List.getElem?_eq_some_iff.1 h).1
 rw [List.getElem?_append_left (by rw [growV_length];exact hk)]
 by_cases hkp:k = p
 ·subst hkp
  obtain rfl:q = e:=by rw [h] at hq;exact (Option.some.inj hq).symm
  exact ⟨{ q with ch:=q.ch ++ [es.length] },by unfold growV;rw [List.getElem?_set_self hk],rfl,rfl,rfl,fun h => absurd rfl h,fun _ => rfl⟩
 ·exact ⟨e,by unfold growV;rw [List.getElem?_set_ne (fun e => hkp e.symm)];exact h,rfl,rfl,rfl,fun _ => rfl,fun h => absurd h hkp⟩
theorem grown_back {es:List El} {p:Nat} {q x:El} (hq:es[p]? = some q) {k:Nat} {e':El} (h:(growV es p q es.length ++ [x])[k]? = some e') :
  (∃ e,es[k]? = some e ∧ e'.nd = e.nd ∧ e'.depth = e.depth ∧ e'.place = e.place ∧ (k ≠ p → e'.ch = e.ch) ∧ (k = p → e'.ch = e.ch ++ [es.length])) ∨ (k = es.length ∧ e' = x):=by
 rcases snoc_at h with h | ⟨h1,h2⟩
 ·left
  unfold growV at h
  rcases set_at' h with ⟨rfl,rfl⟩ | ⟨hk,h⟩
  ·exact ⟨q,hq,rfl,rfl,rfl,fun h => absurd rfl h,fun _ => rfl⟩
  ·exact ⟨e',h,rfl,rfl,rfl,fun _ => rfl,fun h => absurd h hk⟩
 ·rw [growV_length] at h1
  exact .inr ⟨h1,h2⟩
theorem TreeOk.more {es:List El} (hT:TreeOk es) {p:Nat} {q:El} (hq:es[p]? = some q) (n:Nd) (hp:n.parent = (p:Int)) (hd:¬ q.depth = 256) :
  TreeOk (growV es p q es.length ++ [⟨lowN n,q.depth + 1,q.ch.length + 1,[]⟩]):=by
 have hlt:p < es.length:=(List.getElem?_eq_some_iff.1 hq).1
 have hlen:(growV es p q es.length ++ [(⟨lowN n,q.depth + 1,q.ch.length + 1,[]⟩:El)]).length = es.length + 1:=by simp [growV_length]
 have hnew:(growV es p q es.length ++ [(⟨lowN n,q.depth + 1,q.ch.length + 1,[]⟩:El)])[es.length]? = some ⟨lowN n,q.depth + 1,q.ch.length + 1,[]⟩:=by
  rw [List.getElem?_append_right (by rw [growV_length];exact Nat.le_refl _),growV_length]
  simp
 refine ⟨fun e h => ?_,fun k e h hk => ?_,fun p' q' i c h hc => ?_,fun k e h => ?_,fun k e h => ?_,fun k e h => ?_,?_⟩
 ·rcases grown_back hq h with ⟨e0,h0,h1,h2,h3,_⟩ | ⟨h0,rfl⟩
  ·rw [h1,h2,h3]
   exact hT.root e0 h0
  ·omega
 ·rcases grown_back hq h with ⟨e0,h0,h1,h2,h3,_⟩ | ⟨rfl,rfl⟩
  ·obtain ⟨p1,q1,a1,a2,a3,a4,a5,a6⟩:=hT.par k e0 h0 hk
   obtain ⟨q2,b1,b2,b3,b4,b5,b6⟩:=grown_at hq ⟨lowN n,q.depth + 1,q.ch.length + 1,[]⟩ a3
   refine ⟨p1,q2,by rw [h1];exact a1,a2,b1,by rw [h2,b3];exact a4,by rw [h3];exact a5,?_⟩
   rw [h3]
   by_cases e1:p1 = p
   ·rw [b6 e1,List.getElem?_append_left (List.getElem?_eq_some_iff.1 a6).1]
    exact a6
   ·rw [b5 e1]
    exact a6
  ·obtain ⟨q2,b1,b2,b3,b4,b5,b6⟩:=grown_at hq ⟨lowN n,q.depth + 1,q.ch.length + 1,[]⟩ hq
   refine ⟨p,q2,hp,hlt,b1,by rw [b3],by simp,?_⟩
   rw [b6 rfl,Nat.add_sub_cancel,List.getElem?_append_right (Nat.le_refl _)]
   simp
 ·rcases grown_back hq h with ⟨e0,h0,h1,h2,h3,h4,h5⟩ | ⟨rfl,rfl⟩
  ·by_cases e1:p' = p
   ·subst e1
    obtain rfl:e0 = q:=by rw [h0] at hq;exact Option.some.inj hq
    rw [h5 rfl] at hc
    by_cases hi:i < e0.ch.length
    ·rw [List.getElem?_append_left hi] at hc
     obtain ⟨e,c1,c2,c3,c4⟩:=hT.chs p' e0 i c h0 hc
     obtain ⟨e2,b1,b2,b3,b4,_⟩:=grown_at hq ⟨lowN n,e0.depth + 1,e0.ch.length + 1,[]⟩ c1
     exact ⟨e2,b1,c2,by rw [b2];exact c3,by rw [b4];exact c4⟩
    ·rw [List.getElem?_append_right (by omega)] at hc
     have hi0:i - e0.ch.length = 0:=by
      have:=(List.getElem?_eq_some_iff.1 hc).1
      simpa using this
     rw [hi0] at hc
     obtain rfl:es.length = c:=by simpa using hc
     exact ⟨_,hnew,hlt,hp,by simp;omega⟩
   ·rw [h4 e1] at hc
    obtain ⟨e,c1,c2,c3,c4⟩:=hT.chs p' e0 i c h0 hc
    obtain ⟨e2,b1,b2,b3,b4,_⟩:=grown_at hq ⟨lowN n,q.depth + 1,q.ch.length + 1,[]⟩ c1
    exact ⟨e2,b1,c2,by rw [b2];exact c3,by rw [b4];exact c4⟩
  ·simp at hc
 ·rcases grown_back hq h with ⟨e0,h0,h1,h2,h3,_⟩ | ⟨rfl,rfl⟩
  ·rw [h2]
   exact hT.deep k e0 h0
  ·have:=hT.deep p q hq
   show q.depth + 1 ≤ 256
   omega
 ·rw [hlen]
  rcases grown_back hq h with ⟨e0,h0,h1,h2,h3,h4,h5⟩ | ⟨rfl,rfl⟩
  ·have:=hT.few k e0 h0
   by_cases e1:k = p
   ·rw [h5 e1,List.length_append,List.length_singleton]
    omega
   ·rw [h4 e1]
    omega
  ·exact Nat.zero_le _
 ·rcases grown_back hq h with ⟨e0,h0,h1,h2,h3,h4,h5⟩ | ⟨rfl,rfl⟩
  ·have h6:=hT.rise k e0 h0
   by_cases e1:k = p
   ·rw [h5 e1,List.pairwise_append]
    refine ⟨h6,List.pairwise_singleton _ _,fun a ha b hb => ?_⟩
    obtain rfl:=List.mem_singleton.1 hb
    obtain ⟨i,hi⟩:=List.mem_iff_getElem?.1 ha
    obtain ⟨e2,h7,_⟩:=hT.chs k e0 i a h0 hi
    exact (List.getElem?_eq_some_iff.1 h7).1
   ·rw [h4 e1]
    exact h6
  ·exact List.Pairwise.nil
 ·rw [hlen,sumCh_append]
  unfold growV
  rw [sumCh_set es p q _ hq (by simp),hT.sum]
  simp [sumCh]
  omega
theorem addV_ok {es es':List El} {n:Nd} (hT:TreeOk es) (h:addV es n = .ok es'):TreeOk es':=by
 unfold addV at h
 split at h
 ·split at h
  ·rename_i hp
   cases h
   exact TreeOk.one n hp
  ·cases h
 ·split at h
  ·rename_i hp
   split at h
   ·cases h
   ·rename_i hd
    cases h
    obtain ⟨p,hpe⟩:∃ p:Nat,n.parent = (p:Int):=⟨n.parent.toNat,by omega⟩
    have hlt:p < es.length:=by omega
    have hq:es[p]? = some es[p]:=List.getElem?_eq_getElem hlt
    have hg:es.getD n.parent.toNat zeroEl = es[p]:=by rw [hpe,Int.toNat_natCast];simp [List.getD,hq]
    rw [hg] at hd ⊢
    rw [hpe,Int.toNat_natCast]
    exact hT.more hq n hpe hd
  ·cases h
theorem newF_ok:∀ (l:List Nd) (es es':List El),TreeOk es → newF es l = .ok es' → TreeOk es'
 | [],es,es',hT,h => by cases h;exact hT
 | n :: l,es,es',hT,h => by
  unfold newF at h
  cases ha:addV es n with
  | error x => rw [ha] at h;cases h
  | ok e2 =>
   rw [ha] at h
   exact newF_ok l e2 es' (addV_ok hT ha) h
theorem newV_ok {l:List Nd} {es:List El} (h:newV l = .ok es):TreeOk es ∧ es.length = l.length ∧ l.length ≤ 4096:=by
 unfold newV at h
 split at h
 ·cases h
 ·exact ⟨newF_ok l [] es TreeOk.nil h,by have:=newF_length l [] es h;simpa using this,by omega⟩
end Go.Proofs.YtagbjmocjaaioaaGreatDoor.Dm
