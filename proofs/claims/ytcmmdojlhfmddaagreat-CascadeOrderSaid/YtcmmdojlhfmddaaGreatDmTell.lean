/- What is so of every tree that dom.New makes: plain facts. -/
import Derived.Test.YtcmmdojlhfmddaaGreatDmTree
import Derived.Test.YtcmmdojlhfmddaaGreatShelf
import Derived.Test.YtcmmdojlhfmddaaGreatRgn
import Derived.Deep.RegionHeldLaw
namespace Go.Proofs.YtcmmdojlhfmddaaGreat.Dm
open Go
def sumCh:List El → Nat
 | [] => 0
 | e :: l => e.ch.length + sumCh l
theorem sumCh_append (a b:List El):sumCh (a ++ b) = sumCh a + sumCh b:=by
 induction a with
 | nil => simp [sumCh]
 | cons x a ih => simp [sumCh,ih,Nat.add_assoc]
theorem sumCh_set:∀ (l:List El) (p:Nat) (q q':El),l[p]? = some q → q'.ch.length = q.ch.length + 1 → sumCh (l.set p q') = sumCh l + 1
 | [],p,q,q',h,_ => by simp at h
 | x :: l,0,q,q',h,hl => by
  obtain rfl:x = q:=by simpa using h
  simp [sumCh,hl]
  omega
 | x :: l,p + 1,q,q',h,hl => by
  have:=sumCh_set l p q q' (by simpa using h) hl
  simp [sumCh,this]
  omega
structure TreeOk (es:List El):Prop where
 root:∀ e,es[0]? = some e → e.nd.parent = -1 ∧ e.depth = 0 ∧ e.place = 1
 par:∀ (k:Nat) (e:El),es[k]? = some e → 0 < k → ∃ (p:Nat) (q:El),e.nd.parent = (p:Int) ∧ p < k ∧ es[p]? = some q ∧ e.depth = q.depth + 1 ∧ 1 ≤ e.place ∧ q.ch[e.place - 1]? = some k
 chs:∀ (p:Nat) (q:El) (i c:Nat),es[p]? = some q → q.ch[i]? = some c → ∃ e,es[c]? = some e ∧ p < c ∧ e.nd.parent = (p:Int) ∧ e.place = i + 1
 deep:∀ (k:Nat) (e:El),es[k]? = some e → e.depth ≤ 256
 few:∀ (k:Nat) (e:El),es[k]? = some e → e.ch.length ≤ es.length
 rise:∀ (k:Nat) (e:El),es[k]? = some e → e.ch.Pairwise (· < ·)
 sum:sumCh es = es.length - 1
theorem TreeOk.nil:TreeOk []:=⟨fun _ h => (by simp at h),fun _ _ h => (by simp at h),fun _ _ _ _ h => (by simp at h),fun _ _ h => (by simp at h),fun _ _ h => (by simp at h),fun _ _ h => (by simp at h),rfl⟩
theorem one_at {e f:El} {k:Nat} (h:[e][k]? = some f):k = 0 ∧ f = e:=by
 have:k = 0:=by
  have:=(List.getElem?_eq_some_iff.1 h).1
  simpa using this
 subst this
 exact ⟨rfl,by simpa using h.symm⟩
theorem TreeOk.one (n:Nd) (hp:n.parent = -1):TreeOk [⟨lowN n,0,1,[]⟩]:=by
 refine ⟨fun e h => ?_,fun k e h hk => ?_,fun p q i c h hc => ?_,fun k e h => ?_,fun k e h => ?_,fun k e h => ?_,rfl⟩
 ·obtain rfl:=(one_at h).2
  exact ⟨hp,rfl,rfl⟩
 ·have:=(one_at h).1
  omega
 ·obtain rfl:=(one_at h).2
  simp at hc
 ·obtain rfl:=(one_at h).2
  exact Nat.zero_le _
 ·obtain rfl:=(one_at h).2
  exact Nat.zero_le _
 ·obtain rfl:=(one_at h).2
  exact List.Pairwise.nil
theorem snoc_at {l:List El} {x e:El} {k:Nat} (h:(l ++ [x])[k]? = some e):l[k]? = some e ∨ (k = l.length ∧ e = x):=by
 by_cases hk:k < l.length
 ·rw [List.getElem?_append_left hk] at h
  exact .inl h
 ·rw [List.getElem?_append_right (by omega)] at h
  obtain ⟨h1,h2⟩:=one_at h
  exact .inr ⟨by omega,h2⟩
theorem set_at' {l:List El} {p j:Nat} {x y:El} (h:(l.set p x)[j]? = some y):(j = p ∧ y = x) ∨ (j ≠ p ∧ l[j]? = some y):=by
 rw [List.getElem?_set] at h
 by_cases e:p = j
 ·rw [if_pos e] at h
  split at h
  ·exact .inl ⟨e.symm,by simpa using h.symm⟩
  ·cases h
 ·rw [if_neg e] at h
  exact .inr ⟨fun h' => e h'.symm,h⟩
theorem grown_at {es:List El} {p:Nat} {q:El} (hq:es[p]? = some q) (x:El) {k:Nat} {e:El} (h:es[k]? = some e) :
  ∃ e',(growV es p q es.length ++ [x])[k]? = some e' ∧ e'.nd = e.nd ∧ e'.depth = e.depth ∧ e'.place = e.place ∧ (k ≠ p → e'.ch = e.ch) ∧ (k = p → e'.ch = e.ch ++ [es.length]):=by
 have hk:k < es.length:=(List.getElem?_eq_some_iff.1 h).1
 rw [List.getElem?_append_left (by rw [growV_length];exact hk)]
 by_cases hkp:k = p
 ·subst hkp
  obtain rfl:q = e:=by rw [h] at hq;exact (Option.some.inj hq).symm
  exact ⟨{ q with ch:=q.ch ++ [es.length] },by unfold growV;rw [List.getElem?_set_self hk],rfl,rfl,rfl,fun h => absurd rfl h,fun _ => rfl⟩
 ·exact ⟨e,by unfold growV;rw [List.getElem?_set_ne (fun e => hkp e.symm)];exact h,rfl,rfl,rfl,fun _ => rfl,fun h => absurd h hkp⟩
theorem grown_back {es:List El} {p:Nat} {q x:El} (hq:es[p]? = some q) {k:Nat} {e':El} (h:(growV es p q es.length ++ [x])[k]? = some e') :
  (∃ e,es[k]? = some e ∧ e'.nd = e.nd ∧ e'.depth = e.depth ∧ e'.place = e.place ∧ (k ≠ p → e'.ch = e.ch) ∧ (k = p → e'.ch = e.ch ++ [es.length])) ∨ (k = es.length ∧ e' = x):=by
 rcases snoc_at h with h | ⟨h1,h2⟩
 ·left
  unfold growV at h
  rcases set_at' h with ⟨rfl,rfl⟩ | ⟨hk,h⟩
  ·exact ⟨q,hq,rfl,rfl,rfl,fun h => absurd rfl h,fun _ => rfl⟩
  ·exact ⟨e',h,rfl,rfl,rfl,fun _ => rfl,fun h => absurd h hk⟩
 ·rw [growV_length] at h1
  exact .inr ⟨h1,h2⟩
theorem TreeOk.more {es:List El} (hT:TreeOk es) {p:Nat} {q:El} (hq:es[p]? = some q) (n:Nd) (hp:n.parent = (p:Int)) (hd:¬ q.depth = 256) :
  TreeOk (growV es p q es.length ++ [⟨lowN n,q.depth + 1,q.ch.length + 1,[]⟩]):=by
 have hlt:p < es.length:=(List.getElem?_eq_some_iff.1 hq).1
 have hlen:(growV es p q es.length ++ [(⟨lowN n,q.depth + 1,q.ch.length + 1,[]⟩:El)]).length = es.length + 1:=by simp [growV_length]
 have hnew:(growV es p q es.length ++ [(⟨lowN n,q.depth + 1,q.ch.length + 1,[]⟩:El)])[es.length]? = some ⟨lowN n,q.depth + 1,q.ch.length + 1,[]⟩:=by
  rw [List.getElem?_append_right (by rw [growV_length];exact Nat.le_refl _),growV_length]
  simp
 refine ⟨fun e h => ?_,fun k e h hk => ?_,fun p' q' i c h hc => ?_,fun k e h => ?_,fun k e h => ?_,fun k e h => ?_,?_⟩
 ·rcases grown_back hq h with ⟨e0,h0,h1,h2,h3,_⟩ | ⟨h0,rfl⟩
  ·rw [h1,h2,h3]
   exact hT.root e0 h0
  ·omega
 ·rcases grown_back hq h with ⟨e0,h0,h1,h2,h3,_⟩ | ⟨rfl,rfl⟩
  ·obtain ⟨p1,q1,a1,a2,a3,a4,a5,a6⟩:=hT.par k e0 h0 hk
   obtain ⟨q2,b1,b2,b3,b4,b5,b6⟩:=grown_at hq ⟨lowN n,q.depth + 1,q.ch.length + 1,[]⟩ a3
   refine ⟨p1,q2,by rw [h1];exact a1,a2,b1,by rw [h2,b3];exact a4,by rw [h3];exact a5,?_⟩
   rw [h3]
   by_cases e1:p1 = p
   ·rw [b6 e1,List.getElem?_append_left (List.getElem?_eq_some_iff.1 a6).1]
    exact a6
   ·rw [b5 e1]
    exact a6
  ·obtain ⟨q2,b1,b2,b3,b4,b5,b6⟩:=grown_at hq ⟨lowN n,q.depth + 1,q.ch.length + 1,[]⟩ hq
   refine ⟨p,q2,hp,hlt,b1,by rw [b3],by simp,?_⟩
   rw [b6 rfl,Nat.add_sub_cancel,List.getElem?_append_right (Nat.le_refl _)]
   simp
 ·rcases grown_back hq h with ⟨e0,h0,h1,h2,h3,h4,h5⟩ | ⟨rfl,rfl⟩
  ·by_cases e1:p' = p
   ·subst e1
    obtain rfl:e0 = q:=by rw [h0] at hq;exact Option.some.inj hq
    rw [h5 rfl] at hc
    by_cases hi:i < e0.ch.length
    ·rw [List.getElem?_append_left hi] at hc
     obtain ⟨e,c1,c2,c3,c4⟩:=hT.chs p' e0 i c h0 hc
     obtain ⟨e2,b1,b2,b3,b4,_⟩:=grown_at hq ⟨lowN n,e0.depth + 1,e0.ch.length + 1,[]⟩ c1
     exact ⟨e2,b1,c2,by rw [b2];exact c3,by rw [b4];exact c4⟩
    ·rw [List.getElem?_append_right (by omega)] at hc
     have hi0:i - e0.ch.length = 0:=by
      have:=(List.getElem?_eq_some_iff.1 hc).1
      simpa using this
     rw [hi0] at hc
     obtain rfl:es.length = c:=by simpa using hc
     exact ⟨_,hnew,hlt,hp,by simp;omega⟩
   ·rw [h4 e1] at hc
    obtain ⟨e,c1,c2,c3,c4⟩:=hT.chs p' e0 i c h0 hc
    obtain ⟨e2,b1,b2,b3,b4,_⟩:=grown_at hq ⟨lowN n,q.depth + 1,q.ch.length + 1,[]⟩ c1
    exact ⟨e2,b1,c2,by rw [b2];exact c3,by rw [b4];exact c4⟩
  ·simp at hc
 ·rcases grown_back hq h with ⟨e0,h0,h1,h2,h3,_⟩ | ⟨rfl,rfl⟩
  ·rw [h2]
   exact hT.deep k e0 h0
  ·have:=hT.deep p q hq
   show q.depth + 1 ≤ 256
   omega
 ·rw [hlen]
  rcases grown_back hq h with ⟨e0,h0,h1,h2,h3,h4,h5⟩ | ⟨rfl,rfl⟩
  ·have:=hT.few k e0 h0
   by_cases e1:k = p
   ·rw [h5 e1,List.length_append,List.length_singleton]
    omega
   ·rw [h4 e1]
    omega
  ·exact Nat.zero_le _
 ·rcases grown_back hq h with ⟨e0,h0,h1,h2,h3,h4,h5⟩ | ⟨rfl,rfl⟩
  ·have h6:=hT.rise k e0 h0
   by_cases e1:k = p
   ·rw [h5 e1,List.pairwise_append]
    refine ⟨h6,List.pairwise_singleton _ _,fun a ha b hb => ?_⟩
    obtain rfl:=List.mem_singleton.1 hb
    obtain ⟨i,hi⟩:=List.mem_iff_getElem?.1 ha
    obtain ⟨e2,h7,_⟩:=hT.chs k e0 i a h0 hi
    exact (List.getElem?_eq_some_iff.1 h7).1
   ·rw [h4 e1]
    exact h6
  ·exact List.Pairwise.nil
 ·rw [hlen,sumCh_append]
  unfold growV
  rw [sumCh_set es p q _ hq (by simp),hT.sum]
  simp [sumCh]
  omega
theorem addV_ok {es es':List El} {n:Nd} (hT:TreeOk es) (h:addV es n = .ok es'):TreeOk es':=by
 unfold addV at h
 split at h
 ·split at h
  ·rename_i hp
   cases h
   exact TreeOk.one n hp
  ·cases h
 ·split at h
  ·rename_i hp
   split at h
   ·cases h
   ·rename_i hd
    cases h
    obtain ⟨p,hpe⟩:∃ p:Nat,n.parent = (p:Int):=⟨n.parent.toNat,by omega⟩
    have hlt:p < es.length:=by omega
    have hq:es[p]? = some es[p]:=List.getElem?_eq_getElem hlt
    have hg:es.getD n.parent.toNat zeroEl = es[p]:=by rw [hpe,Int.toNat_natCast];simp [List.getD,hq]
    rw [hg] at hd ⊢
    rw [hpe,Int.toNat_natCast]
    exact hT.more hq n hpe hd
  ·cases h
theorem newF_ok:∀ (l:List Nd) (es es':List El),TreeOk es → newF es l = .ok es' → TreeOk es'
 | [],es,es',hT,h => by cases h;exact hT
 | n :: l,es,es',hT,h => by
  unfold newF at h
  cases ha:addV es n with
  | error x => rw [ha] at h;cases h
  | ok e2 =>
   rw [ha] at h
   exact newF_ok l e2 es' (addV_ok hT ha) h
theorem newV_ok {l:List Nd} {es:List El} (h:newV l = .ok es):TreeOk es ∧ es.length = l.length ∧ l.length ≤ 4096:=by
 unfold newV at h
 split at h
 ·cases h
 ·exact ⟨newF_ok l [] es TreeOk.nil h,by have:=newF_length l [] es h;simpa using this,by omega⟩
end Go.Proofs.YtcmmdojlhfmddaaGreat.Dm

/- package dom: kept: a node as a tree keeps it, in new memory. -/
set_option maxRecDepth 100000
namespace Go.Proofs.YtcmmdojlhfmddaaGreat.Dm
open Go Go.RowKit Go.Shelf
theorem clone_any (w:World) (s:ByteArray) (hs:s.size ≤ 281474976710656) :
  Calls Tryz.prog 46 #[.string s] w fun e w' => e = .returned (.string s) ∧ Below w.heap.size w w':=by
 have hc:=Tryz.stringslite_Clone s w hs
 go_enter Tryz.func46,Tryz.ntmps46
 go_wp2_with fail
 refine hc.mono ?_
 rintro e w' ⟨rfl,hb⟩
 clear hc
 go_wp2
 go_ret
 exact ⟨rfl,hb⟩
theorem low_any (w:World) (s:ByteArray) (hs:s.size ≤ 281474976710656) :
  Calls Tryz.prog 45 #[.string s] w fun e w' => e = .returned (.string (lowS s)) ∧ Below w.heap.size w w':=Lw.lower_any s w (by unfold maxLen;omega)
theorem push_cls {n B g7 c7 k:Nat} {w7:World} {a b c d v:Value} {l:List ByteArray} {s:ByteArray} (hB:Blk w7 B 30 [a,b,c,v,d]) (hl:l.length = k)
  (hr:w7.ownsRow n 9 1 (.slice (some ⟨g7,0,none⟩) (k + 1) c7) (k + 1) (l.map Value.string ++ [.string s])) :
  StrRow n (w7.setCell ⟨B,3,none⟩ (.slice (some ⟨g7,0,none⟩) (k + 1) c7)) (.slice (some ⟨g7,0,none⟩) (k + 1) c7) (l ++ [s]) ∧ Blk (w7.setCell ⟨B,3,none⟩ (.slice (some ⟨g7,0,none⟩) (k + 1) c7)) B 30 [a,b,c,.slice (some ⟨g7,0,none⟩) (k + 1) c7,d]:=by
 have hne:=row_blk (e:=9) (t:=30) (by decide) hr hB
 refine ⟨?_,blk_put hB 3 _⟩
 unfold StrRow
 rw [List.length_append,List.length_singleton,hl,List.map_append]
 exact hr.kept (grown_set w7 B 3 _) (.inr hne)
theorem push_ats {n B g7 c7 k:Nat} {w7:World} {a b c d v:Value} {l:List (ByteArray × ByteArray)} {s:ByteArray × ByteArray} (hB:Blk w7 B 30 [a,b,c,d,v]) (hl:l.length = k)
  (hr:w7.ownsRow n 114 2 (.slice (some ⟨g7,0,none⟩) (k + 1) c7) (k + 1) (l.flatMap paCells ++ [.string s.1,.string s.2])) :
  PairRow n (w7.setCell ⟨B,4,none⟩ (.slice (some ⟨g7,0,none⟩) (k + 1) c7)) (.slice (some ⟨g7,0,none⟩) (k + 1) c7) (l ++ [s]) ∧ Blk (w7.setCell ⟨B,4,none⟩ (.slice (some ⟨g7,0,none⟩) (k + 1) c7)) B 30 [a,b,c,d,.slice (some ⟨g7,0,none⟩) (k + 1) c7]:=by
 have hne:=row_blk (e:=114) (t:=30) (by decide) hr hB
 refine ⟨?_,blk_put hB 4 _⟩
 unfold PairRow
 rw [List.length_append,List.length_singleton,hl,List.flatMap_append]
 exact hr.kept (grown_set w7 B 4 _) (.inr hne)
theorem take_more {α:Type} {l:List α} {k:Nat} (h:k < l.length):l.take (k + 1) = l.take k ++ [l[k]]:=List.take_succ_eq_append_getElem h
set_option maxHeartbeats 16000000 in
theorem kept_any (n:Nd) (cv av:Value) (w:World) (hc:StrsAt w.heap.size w cv n.cls) (ha:PairsAt w.heap.size w av n.ats) (hN:NdOk n) :
  Calls Tryz.prog 19 #[ndVal n cv av] w fun e w' => ∃ cv' av',e = .returned (ndVal (lowN n) cv' av') ∧ StrRow w.heap.size w' cv' n.cls ∧ PairRow w.heap.size w' av' (n.ats.map lowA) ∧ Below w.heap.size w w':=by
 unfold ndVal
 obtain ⟨parent,tag,id,cls,ats⟩:=n
 obtain ⟨n1,n2,n3,n4,n5,n6⟩:=hN
 simp only at hc ha n1 n2 n3 n4 n5 n6
 obtain ⟨pc,cc,rfl⟩:=hc.len
 obtain ⟨pa,ca,rfl⟩:=ha.len
 have k1:Blk (w.alloc (.cells #[.int .i64 parent,.string tag,.string id,.slice pc cls.length cc,.slice pa ats.length ca] 30)) w.heap.size 30 [.int .i64 parent,.string tag,.string id,.slice pc cls.length cc,.slice pa ats.length ca]:=Blk.new w 30 [.int .i64 parent,.string tag,.string id,.slice pc cls.length cc,.slice pa ats.length ca]
 have b1:Below w.heap.size w (w.alloc (.cells #[.int .i64 parent,.string tag,.string id,.slice pc cls.length cc,.slice pa ats.length ca] 30)):=(Below.refl _ _).alloc (Nat.le_refl _) _
 have hs1:(w.alloc (.cells #[.int .i64 parent,.string tag,.string id,.slice pc cls.length cc,.slice pa ats.length ca] 30)).heap.size = w.heap.size + 1:=World.size_alloc _ _
 have b2:Below (w.heap.size + 1) (w.alloc (.cells #[.int .i64 parent,.string tag,.string id,.slice pc cls.length cc,.slice pa ats.length ca] 30)) ((w.alloc (.cells #[.int .i64 parent,.string tag,.string id,.slice pc cls.length cc,.slice pa ats.length ca] 30)).alloc (.cells #[.int .i64 0,.string ⟨#[]⟩,.string ⟨#[]⟩,.slice none 0 0,.slice none 0 0] 30)):=(Below.refl _ _).alloc (by rw [hs1];exact Nat.le_refl _) _
 have k2:Blk ((w.alloc (.cells #[.int .i64 parent,.string tag,.string id,.slice pc cls.length cc,.slice pa ats.length ca] 30)).alloc (.cells #[.int .i64 0,.string ⟨#[]⟩,.string ⟨#[]⟩,.slice none 0 0,.slice none 0 0] 30)) (w.heap.size + 1) 30 [.int .i64 0,.string ⟨#[]⟩,.string ⟨#[]⟩,.slice none 0 0,.slice none 0 0]:=by
  rw [← hs1];exact Blk.new _ 30 [.int .i64 0,.string ⟨#[]⟩,.string ⟨#[]⟩,.slice none 0 0,.slice none 0 0]
 have k3:=k1.below b2 (Nat.lt_succ_self _)
 have b3:=b1.trans (b2.mono (Nat.le_succ _))
 clear k1 b1 b2 hs1
 go_enter Tryz.func19,Tryz.ntmps19
 go_upto_region 1 with fail
 generalize (w.alloc (.cells #[.int .i64 parent,.string tag,.string id,.slice pc cls.length cc,.slice pa ats.length ca] 30)).alloc (.cells #[.int .i64 0,.string ⟨#[]⟩,.string ⟨#[]⟩,.slice none 0 0,.slice none 0 0] 30) = W1 at *
 have hs1:=k2.lt
 have h01:=k3.lt
 have g1:=low_any W1.drew tag n1
 go_cut [3] (fun x wx => ∃ B,x = .pointer (some ⟨B,0,none⟩) ∧ W1.heap.size ≤ B ∧ Blk wx B 30 [.int .i64 parent,.string (lowS tag),.string id,.slice none 0 0,.slice none 0 0] ∧ Below W1.heap.size W1 wx)
 case first =>
  obtain ⟨⟨y0,y1,y2,y3,y4⟩,_⟩:=blk5 k3
  have HS:Hid (∀ X:World,Below W1.heap.size W1 X → X.cell? ⟨w.heap.size,0,none⟩ = some (.int .i64 parent) ∧ X.cell? ⟨w.heap.size,1,none⟩ = some (.string tag) ∧ X.cell? ⟨w.heap.size,2,none⟩ = some (.string id)):=fun X hX => by
   obtain ⟨⟨z0,z1,z2,_,_⟩,_⟩:=blk5 (k3.next hX)
   exact ⟨z0,z1,z2⟩
  have HA:Hid (∀ (X:World) (o:Obj),Below W1.heap.size W1 X → Below W1.heap.size W1 (X.alloc o)):=fun X o h => h.alloc h.size o
  have HN:Hid (∀ X Y:World,Below X.heap.size X Y → Below W1.heap.size W1 X → Below W1.heap.size W1 Y):=fun X Y h hX => below_next hX h
  have H5:Hid (∀ (X:World) (B:Nat) (a b c d e:Value),Below W1.heap.size W1 X → W1.heap.size ≤ B → Below W1.heap.size W1 (((((X.setCell ⟨B,0,none⟩ a).setCell ⟨B,1,none⟩ b).setCell ⟨B,2,none⟩ c).setCell ⟨B,3,none⟩ d).setCell ⟨B,4,none⟩ e)):=fun X B a b c d e h hB => below_grew h (grown_set5 X B a b c d e) h.size hB
  have q0:Below W1.heap.size W1 W1.drew:=below_drew (Below.refl _ _)
  have qA:Below W1.heap.size W1 (W1.alloc (.cells #[.int .i64 0,.string ⟨#[]⟩,.string ⟨#[]⟩,.slice none 0 0,.slice none 0 0] 30)).drew:=below_drew ((Below.refl _ _).alloc (Nat.le_refl _) _)
  clear hc ha k2 k3 b3 n3 n4 n5 n6
  go_region_held (fun X => X.cell? ⟨w.heap.size,0,none⟩ = some (.int .i64 parent) ∧ X.cell? ⟨w.heap.size,1,none⟩ = some (.string tag) ∧ X.cell? ⟨w.heap.size,2,none⟩ = some (.string id)) (first | exact HS.out _ (by with_reducible assumption) | exact HS.out _ (HA.out _ _ (by with_reducible assumption)) | exact HS.out _ (H5.out _ _ _ _ _ _ _ (by with_reducible assumption) (by first | exact Nat.le_refl _ | with_reducible assumption)) | go_keep)
   (first
   | (go_at_call 45;(with_reducible refine Calls.mono (low_any (W1.alloc (.cells #[.int .i64 0,.string ⟨#[]⟩,.string ⟨#[]⟩,.slice none 0 0,.slice none 0 0] 30)).drew tag n1) ?_);rintro e wN ⟨rfl,bN⟩;have qN:=HN.out _ wN bN qA;have kN:Blk wN W1.heap.size 30 [.int .i64 0,.string ⟨#[]⟩,.string ⟨#[]⟩,.slice none 0 0,.slice none 0 0]:=(show Blk (W1.alloc (.cells #[.int .i64 0,.string ⟨#[]⟩,.string ⟨#[]⟩,.slice none 0 0,.slice none 0 0] 30)).drew W1.heap.size 30 [.int .i64 0,.string ⟨#[]⟩,.string ⟨#[]⟩,.slice none 0 0,.slice none 0 0] from Blk.new W1 30 [.int .i64 0,.string ⟨#[]⟩,.string ⟨#[]⟩,.slice none 0 0,.slice none 0 0]).next bN;clear bN)
   | (go_at_call 45;(with_reducible refine Calls.mono (low_any W1.drew tag n1) ?_);rintro e wN ⟨rfl,bN⟩;have qN:=HN.out _ wN bN q0;have sN:=qN.size;clear bN)
   | (go_at_call 46;(with_reducible refine Calls.mono (clone_any wN id n2) ?_);rintro e wM ⟨rfl,bM⟩;have qM:=HN.out _ wM bM qN;have kM:=kN.next bM;obtain ⟨⟨u0,u1,u2,u3,u4⟩,v0,v1,v2,v3,v4⟩:=blk5 kM;clear bM)
   | (go_at_call 46;(with_reducible refine Calls.mono (clone_any wN id n2) ?_);rintro e wM ⟨rfl,bM⟩;have qM:=HN.out _ wM bM qN;have sM:=qM.size;clear bM)
   | (go_at_call 46;(with_reducible refine Calls.mono (clone_any (wN.alloc (.cells #[.int .i64 0,.string ⟨#[]⟩,.string ⟨#[]⟩,.slice none 0 0,.slice none 0 0] 30)) id n2) ?_);rintro e wM ⟨rfl,bM⟩;have qM:=HN.out _ wM bM (qN.alloc sN _);have kM:Blk wM wN.heap.size 30 [.int .i64 0,.string ⟨#[]⟩,.string ⟨#[]⟩,.slice none 0 0,.slice none 0 0]:=(Blk.new wN 30 [.int .i64 0,.string ⟨#[]⟩,.string ⟨#[]⟩,.slice none 0 0,.slice none 0 0]).next bM;obtain ⟨⟨u0,u1,u2,u3,u4⟩,v0,v1,v2,v3,v4⟩:=blk5 kM;clear bM))
  all_goals
   go_wp2_with fail
   go_meet
   first
    | exact ⟨_,rfl,sM,Blk.new wM 30 [.int .i64 parent,.string (lowS tag),.string id,.slice none 0 0,.slice none 0 0],qM.alloc sM _⟩
    | exact ⟨_,rfl,sN,blk_set5 kM _ _ _ _ _,H5.out _ _ _ _ _ _ _ qM sN⟩
    | exact ⟨_,rfl,Nat.le_refl _,blk_set5 kM _ _ _ _ _,H5.out _ _ _ _ _ _ _ qM (Nat.le_refl _)⟩
 case rest =>
  obtain ⟨B,rfl,hB,kB,bW⟩:=hcut
  rename World => W2
  have y3:=(blk5 (k3.next bW)).1.2.2.2.1
  have hsw:=b3.size
  have K3:Hid (Blk W1 w.heap.size 30 [.int .i64 parent,.string tag,.string id,.slice pc cls.length cc,.slice pa ats.length ca]):=k3
  have K2:Hid (Blk W1 (w.heap.size + 1) 30 [.int .i64 0,.string ⟨#[]⟩,.string ⟨#[]⟩,.slice none 0 0,.slice none 0 0]):=k2
  have HC:Hid (StrsAt w.heap.size W1 (.slice pc cls.length cc) cls):=hc.below b3
  have HAt:Hid (PairsAt w.heap.size W1 (.slice pa ats.length ca) ats):=ha.below b3
  have B3:Hid (Below w.heap.size w W1):=b3
  have l3:cls.length ≤ 8796093022208:=by omega
  have l4:ats.length ≤ 4398046511104:=by omega
  have HN3:Hid (∀ s ∈ cls,s.size ≤ 281474976710656):=n3
  have HN4:Hid (∀ a ∈ ats,a.1.size ≤ 281474976710656 ∧ a.2.size ≤ 281474976710656):=n4
  obtain ⟨i0,hi,hz0,hz1,hz2⟩:=info_parts infoStr
  obtain ⟨j0,hj,hx0,hx1,hx2⟩:=info_parts infoPair
  clear n3 n4 g1 hc ha b3 k2 k3
  go_wp2
  go_loopw [20] (fun i wr => ∃ (k:Nat) (v:Value),i = .int .i64 k ∧ k ≤ cls.length ∧ Blk wr B 30 [.int .i64 parent,.string (lowS tag),.string id,v,.slice none 0 0] ∧ StrRow W1.heap.size wr v (cls.take k) ∧ Below W1.heap.size W1 wr) (fun i _ => cls.length - (intOf i).toNat)
  case atStart => exact ⟨0,_,rfl,Nat.zero_le _,kB,World.ownsRow_nil _ _ _ _,bW⟩
  case round =>
   clear kB bW y3
   obtain ⟨k,v,rfl,hk,kB,hR,bW⟩:=hrel
   by_cases hlt:k < cls.length
   ·have hki:(k:Int) < (cls.length:Int):=by omega
    have hlk:(cls.take k).length = k:=List.length_take_of_le hk
    have hs:=HN3.out _ (List.getElem_mem hlt)
    have HTK:Hid (cls.take (k + 1) = cls.take k ++ [cls[k]]):=take_more hlt
    have HLK:Hid (_ = _):=hlk
    obtain ⟨bk,off,rfl,hbk,hcc,_,hcell⟩:=(HC.out.below (bW.mono hsw)).get (List.getElem?_eq_getElem hlt)
    have x0:=hcell 0 _ rfl
    simp only [Nat.mul_one,Nat.add_zero] at x0
    unfold StrRow at hR
    rw [hlk] at hR
    clear hlk
    obtain ⟨pq,cq,rfl⟩:=owns_form hR
    generalize cls[k] = s at *
    clear hcell
    go_upto_region 5 with fail
    have HR4:Hid (∀ (X:World) (o:Obj),Below wr.heap.size wr X → (X.alloc o).ownsRow W1.heap.size 9 1 (.slice pq k cq) k ((cls.take k).map Value.string)):=fun X o hX => (owns_next hR hX).alloc o
    have HSZ:Hid (∀ (X:World) (o:Obj),Below wr.heap.size wr X → W1.heap.size ≤ (X.alloc o).heap.size):=fun X o hX => by rw [World.size_alloc];have:=hX.size;have:=bW.size;omega
    have HB7:Hid (∀ (X:World) (o:Obj) w7,Below wr.heap.size wr X → (X.alloc o).grownBy w7 (Value.slice pq k cq).ownBlock → Blk w7 B 30 [.int .i64 parent,.string (lowS tag),.string id,.slice pq k cq,.slice none 0 0]):=fun X o w7 hX hg => (kB.next (hX.alloc hX.size o)).kept hg (fun e => row_blk (e:=9) (t:=30) (by decide) ((owns_next hR hX).alloc o) (kB.next (hX.alloc hX.size o)) e.symm)
    have HBL:Hid (∀ (X:World),Below wr.heap.size wr X → Blk X B 30 [.int .i64 parent,.string (lowS tag),.string id,.slice pq k cq,.slice none 0 0]):=fun X hX => kB.next hX
    have HBW:Hid (∀ (X:World) (o:Obj) w7 q,Below wr.heap.size wr X → (X.alloc o).grownBy w7 (Value.slice pq k cq).ownBlock → Below W1.heap.size W1 (w7.setCell ⟨B,3,none⟩ q)):=fun X o w7 q hX hg => by
     have h1:=(below_nextN bW hX (Nat.le_refl _)).alloc (by have:=hX.size;have:=bW.size;omega) o
     have h2:=h1.grown hg h1.size (fun r e => (owns_lt hR e).1)
     exact below_grew h2 (grown_set w7 B 3 q) h2.size hB
    have H1:∀ u ∈ ([.string s]:List Value),u.oneCell' = true:=fun u hu => by simp at hu;subst hu;rfl
    have m1:k + 1 ≤ maxLen:=by unfold maxLen;omega
    have m2:(k + 1) * 16 ≤ 140737488355328:=by omega
    have hq0:Below wr.heap.size wr wr.drew:=below_drew (Below.refl _ _)
    obtain ⟨⟨_,_,_,z3,_⟩,_,_,_,f3,_⟩:=blk5 kB
    clear hR kB bW
    go_region_law (first
     | (refine step_append_lies (w:=World.alloc _ _) rfl _ _ 27 rfl W1.heap.size 9 i0 (.string ⟨#[]⟩) 1 16 Tryz.underlying27 hi hz0 hz1 hz2 rfl (by decide) (.slice pq k cq) _ _ rfl (HR4.out _ _ (by assumption)) _ 1 1 [.string s] rfl rfl (cells_plain _ [_] _) H1 (by decide) m1 m2 (HSZ.out _ _ (by assumption)) _ rfl ?_;intro g7 c7 w7 hown7 hgrow7 hat7 hlt7;obtain ⟨⟨_,_,_,z3,_⟩,_,_,_,f3,_⟩:=blk5 (HB7.out _ _ w7 (by assumption) hgrow7))
     | (go_simp;go_at_call 46;refine Calls.mono (clone_any _ _ hs) ?_;rintro e wN ⟨rfl,bN⟩;have qN:Below wr.heap.size wr wN:=hq0.trans (bN.mono (Nat.le_refl _));obtain ⟨⟨_,_,_,z3,_⟩,_⟩:=blk5 (HBL.out wN qN);obtain ⟨⟨_,_,_,za3,_⟩,_⟩:=blk5 (HBL.out (wN.alloc (.cells #[.string s] 9)) (qN.alloc qN.size _))))
    all_goals
     go_wp2
     obtain ⟨h8,h9⟩:=push_cls (HB7.out _ _ w7 qN hgrow7) HLK.out hown7
     exact ⟨⟨k + 1,_,by go_num,by omega,h9,by rw [HTK.out];exact h8,HBW.out _ _ _ _ qN hgrow7⟩,by simp [intOf];omega⟩
   ·have hki:¬ (k:Int) < (cls.length:Int):=by omega
    obtain rfl:k = cls.length:=by omega
    rw [List.take_length] at hR
    have y4:=(blk5 (K3.out.next bW)).1.2.2.2.2
    clear HC HN3
    obtain ⟨pv,cv',rfl⟩:=owns_form hR
    go_wp2
    go_loopw [35] (fun i wr => ∃ (k:Nat) (v2:Value),i = .int .i64 k ∧ k ≤ ats.length ∧ Blk wr B 30 [.int .i64 parent,.string (lowS tag),.string id,.slice pv cls.length cv',v2] ∧ StrRow W1.heap.size wr (.slice pv cls.length cv') cls ∧ PairRow W1.heap.size wr v2 ((ats.take k).map lowA) ∧ Below W1.heap.size W1 wr) (fun i _ => ats.length - (intOf i).toNat)
    case atStart => exact ⟨0,_,rfl,Nat.zero_le _,kB,hR,World.ownsRow_nil _ _ _ _,bW⟩
    case round =>
     clear kB bW y4 hR hki hk hlt
     obtain ⟨k,v2,rfl,hk,kB,hR,hP,bW⟩:=hrel
     by_cases hlt:k < ats.length
     ·have hki:(k:Int) < (ats.length:Int):=by omega
      have hlk:((ats.take k).map lowA).length = k:=by rw [List.length_map];exact List.length_take_of_le hk
      have hs:=HN4.out _ (List.getElem_mem hlt)
      have HTK:Hid ((ats.take (k + 1)).map lowA = (ats.take k).map lowA ++ [lowA ats[k]]):=by show _ = _;rw [take_more hlt,List.map_append];rfl
      have HLK:Hid (_ = _):=hlk
      obtain ⟨bk,off,rfl,hbk,hcc,_,hcell⟩:=(HAt.out.below (bW.mono hsw)).get (List.getElem?_eq_getElem hlt)
      have x0:=hcell 0 _ rfl
      have x1:=hcell 1 _ rfl
      simp only [Nat.add_zero] at x0
      unfold PairRow at hP
      rw [hlk] at hP
      clear hlk
      obtain ⟨pq,cq,rfl⟩:=owns_form hP
      generalize ats[k] = s at *
      obtain ⟨nm,tx⟩:=s
      simp only at x0 x1 hs
      obtain ⟨hs1,hs2⟩:=hs
      clear hcell
      have bA:Below wr.heap.size wr (wr.alloc (.cells #[.string nm,.string tx] 114)):=(Below.refl _ _).alloc (Nat.le_refl _) _
      have kA:Blk (wr.alloc (.cells #[.string nm,.string tx] 114)) wr.heap.size 114 [.string nm,.string tx]:=Blk.new wr 114 [.string nm,.string tx]
      have kBA:=kB.next bA
      have hRA:=hR.next bA
      have hPA:=owns_next hP bA
      have bWA:=below_nextN bW bA (Nat.le_refl _)
      have hgA:∀ g,(Value.slice pq k cq).ownBlock = some g → g < wr.heap.size:=fun g hg => (owns_lt hP hg).2
      clear kB hR hP bW
      go_upto_region 10 with fail
      generalize wr.alloc (.cells #[.string nm,.string tx] 114) = wA at *
      have HR4:Hid (∀ (X:World) (o:Obj),Below wA.heap.size wA X → (X.alloc o).ownsRow W1.heap.size 114 2 (.slice pq k cq) k (((ats.take k).map lowA).flatMap paCells)):=fun X o hX => (owns_next hPA hX).alloc o
      have HSZ:Hid (∀ (X:World) (o:Obj),Below wA.heap.size wA X → W1.heap.size ≤ (X.alloc o).heap.size):=fun X o hX => by rw [World.size_alloc];have:=hX.size;have:=bWA.size;omega
      have HB7:Hid (∀ (X:World) (o:Obj) w7,Below wA.heap.size wA X → (X.alloc o).grownBy w7 (Value.slice pq k cq).ownBlock → Blk w7 B 30 [.int .i64 parent,.string (lowS tag),.string id,.slice pv cls.length cv',.slice pq k cq]):=fun X o w7 hX hg => (kBA.next (hX.alloc hX.size o)).kept hg (fun e => row_blk (e:=114) (t:=30) (by decide) ((owns_next hPA hX).alloc o) (kBA.next (hX.alloc hX.size o)) e.symm)
      have HA7:Hid (∀ (X:World) (o:Obj) w7,Below wA.heap.size wA X → (X.alloc o).grownBy w7 (Value.slice pq k cq).ownBlock → Blk w7 wr.heap.size 114 [.string nm,.string tx]):=fun X o w7 hX hg => (kA.next (hX.alloc hX.size o)).kept hg (fun e => by have:=hgA _ e.symm;omega)
      have HR7:Hid (∀ (X:World) (o:Obj) w7 q,Below wA.heap.size wA X → (X.alloc o).grownBy w7 (Value.slice pq k cq).ownBlock → StrRow W1.heap.size (w7.setCell ⟨B,4,none⟩ q) (.slice pv cls.length cv') cls):=fun X o w7 q hX hg => by
       have h1:=(owns_next hRA hX).alloc o
       have h2:=h1.kept hg (rows_apart (e:=9) (e':=114) (by decide) h1 ((owns_next hPA hX).alloc o))
       exact h2.kept (grown_set w7 B 4 q) (.inr (row_blk (e:=9) (t:=30) (by decide) h2 (HB7.out X o w7 hX hg)))
      have HBL:Hid (∀ (X:World),Below wA.heap.size wA X → Blk X B 30 [.int .i64 parent,.string (lowS tag),.string id,.slice pv cls.length cv',.slice pq k cq]):=fun X hX => kBA.next hX
      have HS:Hid (∀ (X:World),Below wA.heap.size wA X → X.cell? ⟨wr.heap.size,0,none⟩ = some (.string nm) ∧ X.cell? ⟨wr.heap.size,1,none⟩ = some (.string tx)):=fun X hX => (blk2 (kA.next hX)).1
      have HBW:Hid (∀ (X:World) (o:Obj) w7 q,Below wA.heap.size wA X → (X.alloc o).grownBy w7 (Value.slice pq k cq).ownBlock → Below W1.heap.size W1 (w7.setCell ⟨B,4,none⟩ q)):=fun X o w7 q hX hg => by
       have h1:=(below_nextN bWA hX (Nat.le_refl _)).alloc (by have:=hX.size;have:=bWA.size;omega) o
       have h2:=h1.grown hg h1.size (fun r e => (owns_lt hPA e).1)
       exact below_grew h2 (grown_set w7 B 4 q) h2.size hB
      have H1:∀ u ∈ ([.string (lowS nm),.string tx]:List Value),u.oneCell' = true:=fun u hu => by simp at hu;rcases hu with rfl | rfl <;> rfl
      have m1:k + 1 ≤ maxLen:=by unfold maxLen;omega
      have m2:(k + 1) * 32 ≤ 140737488355328:=by omega
      have q0:Below wA.heap.size wA wA.drew:=below_drew (Below.refl _ _)
      have HA:Hid (∀ (X:World) (o:Obj),Below wA.heap.size wA X → Below wA.heap.size wA (X.alloc o)):=fun X o h => h.alloc h.size o
      have hneB:wr.heap.size ≠ B:=fun e => by
       have h1:=kA
       rw [e] at h1
       have h2:=(show wA.heap[B]? = _ from h1).symm.trans (show wA.heap[B]? = _ from kBA)
       injection h2 with h2
       injection h2 with _ h3
       exact absurd h3 (by decide)
      have hneA:B ≠ wr.heap.size:=fun e => hneB e.symm
      obtain ⟨⟨_,_,_,_,z4⟩,_,_,_,_,f4⟩:=blk5 kBA
      clear hPA kBA bWA hRA hgA bA x0 x1
      obtain ⟨⟨a0,a1⟩,_⟩:=blk2 kA
      go_region_law (first
       | (refine step_append_lies (w:=World.alloc _ _) rfl _ _ 28 rfl W1.heap.size 114 j0 (.agg #[.string ⟨#[]⟩,.string ⟨#[]⟩]) 2 32 Tryz.underlying28 hj hx0 hx1 hx2 rfl (by decide) (.slice pq k cq) _ _ rfl (HR4.out _ _ (by assumption)) _ 1 1 [.string (lowS nm),.string tx] rfl rfl (cells_plain _ [_,_] _) H1 (by decide) m1 m2 (HSZ.out _ _ (by assumption)) _ rfl ?_;intro g7 c7 w7 hown7 hgrow7 hat7 hlt7;obtain ⟨⟨_,_,_,_,z4⟩,_,_,_,_,f4⟩:=blk5 (HB7.out _ _ w7 (by assumption) hgrow7))
       | (go_simp;go_at_call 45;refine Calls.mono (low_any _ _ hs1) ?_;rintro e wN ⟨rfl,bN⟩;have qN:Below wA.heap.size wA wN:=below_next q0 bN;obtain ⟨a0,a1⟩:=HS.out wN qN;obtain ⟨⟨_,_,_,_,z4⟩,_⟩:=blk5 (HBL.out wN qN);clear bN)
       | (go_simp;go_at_call 46;refine Calls.mono (clone_any _ _ hs2) ?_;rintro e wM ⟨rfl,bM⟩;have qM:Below wA.heap.size wA wM:=below_next qN bM;obtain ⟨⟨_,_,_,_,z4⟩,_⟩:=blk5 (HBL.out wM qM);obtain ⟨⟨_,_,_,_,za4⟩,_⟩:=blk5 (HBL.out (wM.alloc (.cells #[.string (lowS nm),.string tx] 114)) (qM.alloc qM.size _));clear bM))
      all_goals
       go_wp2
       obtain ⟨h8,h9⟩:=push_ats (s:=(lowS nm,tx)) (HB7.out _ _ w7 qM hgrow7) HLK.out hown7
       exact ⟨⟨k + 1,_,by go_num,by omega,h9,HR7.out _ _ _ _ qM hgrow7,by rw [HTK.out];exact h8,HBW.out _ _ _ _ qM hgrow7⟩,by simp [intOf];omega⟩
     ·have hki:¬ (k:Int) < (ats.length:Int):=by omega
      obtain rfl:k = ats.length:=by omega
      rw [List.take_length] at hP
      unfold PairRow at hP
      rw [List.length_map] at hP
      obtain ⟨pq,cq,rfl⟩:=owns_form hP
      have kZ:=K2.out.next bW
      have kW:=blk_set5 kZ (.int .i64 parent) (.string (lowS tag)) (.string id) (.slice pv cls.length cv') (.slice pq ats.length cq)
      have gW:=grown_set5 wr (w.heap.size + 1) (.int .i64 parent) (.string (lowS tag)) (.string id) (.slice pv cls.length cv') (.slice pq ats.length cq)
      have hR9:=owns_base (hR.kept gW (.inr (row_blk (e:=9) (t:=30) (by decide) hR kZ))) hsw
      have hP9:=owns_base (hP.kept gW (.inr (row_blk (e:=114) (t:=30) (by decide) hP kZ))) hsw
      have b9:=below_grew (below_nextN B3.out (bW.mono (Nat.le_refl _)) (Nat.le_refl _)) gW (by have:=bW.size;omega) (Nat.le_succ _)
      obtain ⟨⟨y0,y1,y2,y3,y4⟩,_⟩:=blk5 kB
      obtain ⟨⟨t0,t1,t2,t3,t4⟩,f0,f1,f2,f3,f4⟩:=blk5 kZ
      unfold set5 at kW hR9 hP9 b9
      clear gW kZ hR hP kB
      go_wp2
      refine bodyPost_ret (results_struct rfl _ _ _ _ rfl (load_node kW)) rfl ?_
      refine ⟨_,_,rfl,hR9,?_,b9⟩
      unfold PairRow
      rw [List.length_map]
      exact hP9
end Go.Proofs.YtcmmdojlhfmddaaGreat.Dm

/- package dom: has, add. -/
set_option maxRecDepth 100000
namespace Go.Proofs.YtcmmdojlhfmddaaGreat.Dm
open Go Go.RowKit
theorem has_any (b tb g cap:Nat) (qs:List Em) (e:Int) (w:World) (hT:Tr b w tb g cap qs) :
  Calls Tryz.prog 20 #[.pointer (some ⟨tb,0,none⟩),.int .i64 e] w fun x w' => x = .returned (.bool (decide (0 ≤ e ∧ e < qs.length))) ∧ w' = w:=by
 have c0:=(blk1 hT.blk).1
 clear hT
 by_cases h0:0 ≤ e
 ·by_cases h1:e < (qs.length:Int)
  ·rw [decide_eq_true ⟨h0,h1⟩]
   go_enter Tryz.func20,Tryz.ntmps20
   go_wp2
   go_ret
   exact ⟨rfl,rfl⟩
  ·rw [decide_eq_false (fun h => h1 h.2)]
   go_enter Tryz.func20,Tryz.ntmps20
   go_wp2
   go_ret
   exact ⟨rfl,rfl⟩
 ·rw [decide_eq_false (fun h => h0 h.1)]
  have h2:decide (0 ≤ e) = false:=decide_eq_false h0
  go_enter Tryz.func20,Tryz.ntmps20
  go_wp2
  go_ret
  exact ⟨rfl,rfl⟩
def Added (b tb g cap:Nat) (qs:List Em) (n:Nd) (w:World) (e:Ending) (w':World):Prop:=
 ((∃ qs',addV (qs.map Em.e) n = .ok (qs'.map Em.e) ∧ e = .returned (.int .i64 0) ∧ Tr b w' tb g cap qs') ∨ (∃ x,addV (qs.map Em.e) n = .error x ∧ e = .returned (.int .i64 x))) ∧ Below b w w'
theorem slice_one {X:World} {b:Nat} {e:TypeId} {s:Nat} {v:Value} {n:Nat} {xs:List Value} (h:X.ownsRow b e s v n xs):v.oneCell' = true:=by
 obtain ⟨q,c,rfl⟩:=owns_form h
 rfl
theorem emOne {X Y:World} {b c:Nat} {p d m:Int} {t i:ByteArray} {cv av:Value} {l:List ByteArray} {a:List (ByteArray × ByteArray)} (hc:StrRow b X cv l) (ha:PairRow c Y av a):∀ u ∈ ([.int .i64 p,.string t,.string i,cv,av,.int .i64 d,.int .i64 m,.slice none 0 0]:List Value),u.oneCell' = true:=fun u hu => by
 simp only [List.mem_cons,List.not_mem_nil,or_false] at hu
 rcases hu with rfl | rfl | rfl | rfl | rfl | rfl | rfl | rfl
 ·rfl
 ·rfl
 ·rfl
 ·exact slice_one hc
 ·exact slice_one ha
 ·rfl
 ·rfl
 ·rfl
set_option maxHeartbeats 4000000 in
theorem add_first (b tb g cap:Nat) (n:Nd) (cv av:Value) (w:World) (hT:Tr b w tb g cap []) (hc:StrsAt b w cv n.cls) (ha:PairsAt b w av n.ats) (hN:NdOk n) (hroom:0 < cap) :
  Calls Tryz.prog 9 #[.pointer (some ⟨tb,0,none⟩),ndVal n cv av] w (Added b tb g cap [] n w):=by
 unfold Added ndVal
 have hb0:b ≤ w.heap.size:=Nat.le_trans hT.low (Nat.le_of_lt hT.blk.lt)
 have bA:Below w.heap.size w (w.alloc (.cells #[.int .i64 n.parent,.string n.tag,.string n.id,cv,av] 30)):=(Below.refl _ _).alloc (Nat.le_refl _) _
 have kA:Blk (w.alloc (.cells #[.int .i64 n.parent,.string n.tag,.string n.id,cv,av] 30)) w.heap.size 30 [.int .i64 n.parent,.string n.tag,.string n.id,cv,av]:=Blk.new w 30 [.int .i64 n.parent,.string n.tag,.string n.id,cv,av]
 obtain ⟨pc,cc,rfl⟩:=hc.len
 obtain ⟨pa,ca,rfl⟩:=ha.len
 have hTA:=hT.next bA
 have hcA:=hc.below (bA.mono hb0)
 have haA:=ha.below (bA.mono hb0)
 have bbA:=bA.mono hb0
 have hs0:=bA.size
 obtain ⟨i0,hi,hz0,hz1,hz2⟩:=info_parts infoEl
 clear bA hc ha hT
 go_enter Tryz.func9,Tryz.ntmps9
 go_upto_region 1 with fail
 generalize w.alloc (.cells #[.int .i64 n.parent,.string n.tag,.string n.id,.slice pc n.cls.length cc,.slice pa n.ats.length ca] 30) = WA at *
 obtain ⟨c0,f0⟩:=blk1 hTA.blk
 simp only [List.length_nil] at c0
 obtain ⟨⟨a0,a1,a2,a3,a4⟩,_⟩:=blk5 kA
 by_cases hp:n.parent = -1
 ·have hadd:addV (List.map Em.e []) n = .ok [⟨lowN n,0,1,[]⟩]:=by unfold addV;simp [hp]
  have HAdd:Hid (_ = _):=hadd
  have HN:Hid (NdOk n):=hN
  obtain ⟨parent,tag,id,cls,ats⟩:=n
  simp only at hp
  subst hp
  clear hN hadd
  go_upto_region 5 with fail
  have HK:Hid (Calls Tryz.prog 19 #[ndVal ⟨-1,tag,id,cls,ats⟩ (.slice pc cls.length cc) (.slice pa ats.length ca)] WA.drew _):=kept_any ⟨-1,tag,id,cls,ats⟩ (.slice pc cls.length cc) (.slice pa ats.length ca) WA.drew ((hcA.mono (by omega:b ≤ WA.heap.size)).next (below_drew (Below.refl _ _))) ((haA.mono (by omega:b ≤ WA.heap.size)).next (below_drew (Below.refl _ _))) HN.out
  unfold ndVal at HK
  have HS:Hid (∀ X:World,Below WA.heap.size WA X → X.cell? ⟨tb,0,none⟩ = some (.slice (some ⟨g,0,none⟩) 0 cap) ∧ X.cell? ⟨w.heap.size,0,none⟩ = some (.int .i64 (-1)) ∧ X.cell? ⟨w.heap.size,1,none⟩ = some (.string tag) ∧ X.cell? ⟨w.heap.size,2,none⟩ = some (.string id) ∧ X.cell? ⟨w.heap.size,3,none⟩ = some (.slice pc cls.length cc) ∧ X.cell? ⟨w.heap.size,4,none⟩ = some (.slice pa ats.length ca)):=fun X hX => by
   obtain ⟨⟨e0,e1,e2,e3,e4⟩,_⟩:=blk5 (kA.next hX)
   exact ⟨(blk1 (hTA.next hX).blk).1,e0,e1,e2,e3,e4⟩
  have HT:Hid (Tr b WA tb g cap []):=hTA
  have HB:Hid (Below b w WA):=bbA
  refine Rg.wpD_begin [1,2,3,4,5,6,7,8] (fun X => X.cell? ⟨tb,0,none⟩ = some (.slice (some ⟨g,0,none⟩) 0 cap) ∧ X.cell? ⟨w.heap.size,0,none⟩ = some (.int .i64 (-1)) ∧ X.cell? ⟨w.heap.size,1,none⟩ = some (.string tag) ∧ X.cell? ⟨w.heap.size,2,none⟩ = some (.string id) ∧ X.cell? ⟨w.heap.size,3,none⟩ = some (.slice pc cls.length cc) ∧ X.cell? ⟨w.heap.size,4,none⟩ = some (.slice pa ats.length ca)) (by kernel_rfl) ?_
  have q0:Below WA.heap.size WA WA.drew:=below_drew (Below.refl _ _)
  have HeldS:=HS.out _ q0
  clear hTA kA bbA c0 f0 a0 a1 a2 a3 a4 hcA haA
  refine Rg.pu 0 ?_
  simp only [Act.put,Rg.sA,Rg.sB,Rg.sC]
  refine Rg.ld 1 HeldS ?_
  simp only [Act.put,Rg.sA,Rg.sB,Rg.sC]
  refine Rg.ld 2 HeldS ?_
  simp only [Act.put,Rg.sA,Rg.sB,Rg.sC]
  refine Rg.ld 3 HeldS ?_
  simp only [Act.put,Rg.sA,Rg.sB,Rg.sC]
  refine Rg.ld 4 HeldS ?_
  simp only [Act.put,Rg.sA,Rg.sB,Rg.sC]
  refine Rg.ld 5 HeldS ?_
  simp only [Act.put,Rg.sA,Rg.sB,Rg.sC]
  refine Rg.dd 6 fun K hK => ?_
  go_simp
  go_at_call 19
  refine Calls.mono HK.out ?_
  rintro e wK ⟨cv',av',rfl,hcK,haK,bK⟩
  have qK:Below WA.heap.size WA wK:=below_next q0 bK
  refine hK _ _ (fun _ => HS.out _ qK) ?_
  clear HeldS hK K bK
  have HeldS:=HS.out _ qK
  simp only [lowN]
  refine Rg.ld 7 HeldS ?_
  simp only [Act.put,Rg.sA,Rg.sB,Rg.sC]
  refine Rg.dd 8 fun K hK => ?_
  go_simp
  have qL:Below WA.heap.size WA (wK.alloc (.cells #[.int .i64 (-1),.string (lowS tag),.string id,cv',av',.int .i64 0,.int .i64 1,.slice none 0 0] 73)):=qK.alloc qK.size _
  have hnew:=cells_plain wK [.int .i64 (-1),.string (lowS tag),.string id,cv',av',.int .i64 0,.int .i64 1,.slice none 0 0] 73
  refine hK _ _ (fun _ => HS.out _ qL) ?_
  clear HeldS hK K
  have HTK:=HT.out.next qL
  have H1:∀ u ∈ ([.int .i64 (-1),.string (lowS tag),.string id,cv',av',.int .i64 0,.int .i64 1,.slice none 0 0]:List Value),u.oneCell' = true:=emOne hcK haK
  refine Rg.dd 9 fun K hK => ?_
  refine Rg.step_append_fits rfl _ _ 47 rfl b 73 i0 8 Tryz.underlying47 hi hz1 g 0 cap [] rfl HTK.row ⟨wK.heap.size,0,none⟩ 1 1 [.int .i64 (-1),.string (lowS tag),.string id,cv',av',.int .i64 0,.int .i64 1,.slice none 0 0] rfl rfl hnew H1 (by omega) ?_
  intro w7 hown7 hgrow7
  refine hK _ _ (fun h => absurd h (by decide)) ?_
  clear hK K hnew H1
  have hcL:=hcK.next ((Below.refl _ wK).alloc (Nat.le_refl _) (.cells #[.int .i64 (-1),.string (lowS tag),.string id,cv',av',.int .i64 0,.int .i64 1,.slice none 0 0] 73))
  have haL:=haK.next ((Below.refl _ wK).alloc (Nat.le_refl _) (.cells #[.int .i64 (-1),.string (lowS tag),.string id,cv',av',.int .i64 0,.int .i64 1,.slice none 0 0] 73))
  have hTz:=HT.out.push (q:=⟨⟨lowN ⟨-1,tag,id,cls,ats⟩,0,1,[]⟩,cv',av',.slice none 0 0⟩) qL rfl rfl hcL haL hown7 hgrow7
  have b7:=(HB.out.trans (qL.mono (by omega))).grown hgrow7 (by have:=qL.size;omega) (fun r e => by cases e;exact HT.out.glt.1)
  have bz:=below_grew b7 (grown_set w7 tb 0 (.slice (some ⟨g,0,none⟩) (0 + 1) cap)) (Nat.le_trans hb0 b7.size) HT.out.low
  have k7:=HTK.blk.kept hgrow7 (fun e => row_blk (e:=73) (t:=49) (by decide) HTK.row HTK.blk e.symm)
  obtain ⟨d7,f7⟩:=blk1 k7
  clear HTK qL qK hcL haL hcK haK b7 k7
  refine Rg.pu 10 ?_
  simp only [Act.put,Rg.sA,Rg.sB,Rg.sC]
  refine Rg.pu 11 ?_
  simp only [Act.put,Rg.sA,Rg.sB,Rg.sC]
  refine Rg.dd 12 fun K hK => ?_
  go_simp
  refine hK _ _ (fun h => absurd h (by decide)) ?_
  clear hK K
  refine Rg.wpD_done (by kernel_rfl) ?_
  go_wp2
  go_ret
  exact ⟨.inl ⟨[⟨⟨lowN ⟨-1,tag,id,cls,ats⟩,0,1,[]⟩,cv',av',.slice none 0 0⟩],HAdd.out,rfl,hTz⟩,bz⟩
 ·have hp':(n.parent != -1) = true:=by simpa using hp
  have hadd:addV (List.map Em.e []) n = .error 10:=by unfold addV;simp [hp]
  have HAdd:Hid (_ = _):=hadd
  obtain ⟨parent,tag,id,cls,ats⟩:=n
  simp only at hp hp' a0
  clear hadd
  go_wp2
  go_ret
  exact ⟨.inr ⟨10,HAdd.out,rfl⟩,bbA⟩
theorem getD_some {l:List El} {k:Nat} {q:El} (h:l[k]? = some q):l.getD k zeroEl = q:=by simp [List.getD,h]
set_option maxHeartbeats 8000000 in
theorem add_more (b tb g cap:Nat) (qs:List Em) (n:Nd) (cv av:Value) (w:World) (hT:Tr b w tb g cap qs) (hc:StrsAt b w cv n.cls) (ha:PairsAt b w av n.ats) (hN:NdOk n) (hroom:qs.length < cap) (h0:0 < qs.length) (hl:qs.length ≤ 4096)
  (hch:∀ (j:Nat) (q:Em),qs[j]? = some q → q.e.ch.length ≤ 4096 ∧ q.e.depth ≤ 256) :
  Calls Tryz.prog 9 #[.pointer (some ⟨tb,0,none⟩),ndVal n cv av] w (Added b tb g cap qs n w):=by
 unfold Added ndVal
 have hb0:b ≤ w.heap.size:=Nat.le_trans hT.low (Nat.le_of_lt hT.blk.lt)
 have bA:Below w.heap.size w (w.alloc (.cells #[.int .i64 n.parent,.string n.tag,.string n.id,cv,av] 30)):=(Below.refl _ _).alloc (Nat.le_refl _) _
 have kA:Blk (w.alloc (.cells #[.int .i64 n.parent,.string n.tag,.string n.id,cv,av] 30)) w.heap.size 30 [.int .i64 n.parent,.string n.tag,.string n.id,cv,av]:=Blk.new w 30 [.int .i64 n.parent,.string n.tag,.string n.id,cv,av]
 obtain ⟨pc,cc,rfl⟩:=hc.len
 obtain ⟨pa,ca,rfl⟩:=ha.len
 have hTA:=hT.next bA
 have hcA:=hc.below (bA.mono hb0)
 have haA:=ha.below (bA.mono hb0)
 have bbA:=bA.mono hb0
 have hs0:=bA.size
 have hlt0:w.heap.size < (w.alloc (.cells #[.int .i64 n.parent,.string n.tag,.string n.id,.slice pc n.cls.length cc,.slice pa n.ats.length ca] 30)).heap.size:=by rw [World.size_alloc];omega
 obtain ⟨i0,hi,hz0,hz1,hz2⟩:=info_parts infoEl
 obtain ⟨j0,hj,hx0,hx1,hx2⟩:=info_parts infoInt
 have hml:(qs.map Em.e).length = qs.length:=List.length_map _
 have hn0:¬ (qs.map Em.e).length = 0:=by rw [hml];omega
 have HCH:Hid (∀ (j:Nat) (q:Em),qs[j]? = some q → q.e.ch.length ≤ 4096 ∧ q.e.depth ≤ 256):=hch
 have HN:Hid (NdOk n):=hN
 have hq0:((qs.length:Int) == 0) = false:=by simpa using (show ¬ qs.length = 0 by omega)
 clear bA hc ha hT hch hN
 go_enter Tryz.func9,Tryz.ntmps9
 go_upto_region 1 with fail
 generalize w.alloc (.cells #[.int .i64 n.parent,.string n.tag,.string n.id,.slice pc n.cls.length cc,.slice pa n.ats.length ca] 30) = WA at *
 obtain ⟨c0,f0⟩:=blk1 hTA.blk
 obtain ⟨⟨a0,a1,a2,a3,a4⟩,_⟩:=blk5 kA
 have hh:=has_any b tb g cap qs n.parent WA hTA
 by_cases hin:0 ≤ n.parent ∧ n.parent < (qs.length:Int)
 ·rw [decide_eq_true hin] at hh
  obtain ⟨p,hp⟩:∃ p:Nat,n.parent = (p:Int):=⟨n.parent.toNat,by omega⟩
  have hplt:p < qs.length:=by omega
  obtain ⟨q,hq⟩:∃ q,qs[p]? = some q:=⟨_,List.getElem?_eq_getElem hplt⟩
  have hgd:(qs.map Em.e).getD n.parent.toNat zeroEl = q.e:=getD_some (by rw [hp,Int.toNat_natCast,List.getElem?_map,hq];rfl)
  have hadd:addV (qs.map Em.e) n = if q.e.depth = 256 then .error 11 else .ok (growV (qs.map Em.e) p q.e qs.length ++ [⟨lowN n,q.e.depth + 1,q.e.ch.length + 1,[]⟩]):=by
   unfold addV
   rw [if_neg hn0,if_pos (by rw [hml];exact hin),hgd,hp,Int.toNat_natCast,hml]
  have HAdd:Hid (_ = _):=hadd
  obtain ⟨hcl,hdl⟩:=HCH.out p q hq
  obtain ⟨x0,_,_,_,_,x5,x6,x7⟩:=hTA.get8 hq
  obtain ⟨parent,tag,id,cls,ats⟩:=n
  simp only at hp a0 a1 a2 a3 a4 hh
  subst hp
  clear hadd hgd hin hn0
  go_upto_region 7 with fail
  go_wp2_with fail
  refine hh.mono ?_
  clear hh
  rintro e w' ⟨rfl,rfl⟩
  have hpi:(p:Int) < (qs.length:Int):=by omega
  go_upto_region 9 with fail
  go_quiet (fail)
  have qN:=below_drewN w' nq
  have hTN:=hTA.next qN
  have kN:=kA.next qN
  have hcN:=hcA.below (qN.mono (Nat.le_trans hb0 hs0))
  have haN:=haA.below (qN.mono (Nat.le_trans hb0 hs0))
  have bN:=bbA.trans (qN.mono (Nat.le_trans hb0 hs0))
  have hltN:w.heap.size < (w'.drewN nq).heap.size:=hlt0
  clear hTA kA hcA haA bbA c0 f0 a0 a1 a2 a3 a4 x0 x5 x6 x7 qN hs0 hlt0
  generalize w'.drewN nq = W1 at *
  obtain ⟨x0,_,_,_,_,x5,x6,x7⟩:=hTN.get8 hq
  by_cases hd:q.e.depth = 256
  ·rw [hd] at x5
   have HAdd2:=HAdd.out
   rw [if_pos hd] at HAdd2
   have HAdd3:Hid (_ = _):=HAdd2
   clear HAdd2 HAdd
   go_wp2
   go_ret
   exact ⟨.inr ⟨11,HAdd3.out,rfl⟩,bN⟩
  ·have hdb:((q.e.depth:Int) == 256) = false:=by simpa using (show ¬ (q.e.depth:Int) = 256 by omega)
   have HAdd2:=HAdd.out
   rw [if_neg hd] at HAdd2
   have HAdd3:Hid (_ = _):=HAdd2
   clear HAdd2 HAdd
   have hI:=hTN.chs p q hq
   unfold IntRow at hI
   rw [chI_len] at hI
   obtain ⟨ph,ch,hv⟩:=owns_form hI
   rw [hv] at x7 hI
   have f7:W1.frozen? ⟨g,p * 8 + 7,none⟩ = false:=hTN.row.frozenAt _
   have HM:Hid (∀ (o:Obj) (w2:World),(W1.alloc o).grownBy w2 (Value.slice ph q.e.ch.length ch).ownBlock → w2.cell? ⟨g,p * 8 + 7,none⟩ = some (.slice ph q.e.ch.length ch) ∧ w2.frozen? ⟨g,p * 8 + 7,none⟩ = false):=fun o w2 hg => by
    have:=hTN.mid (o:=o) hq (by rw [hv];exact hg)
    rwa [hv] at this
   have H1:∀ u ∈ ([.int .i64 (qs.length:Int)]:List Value),u.oneCell' = true:=fun u hu => by simp at hu;subst hu;rfl
   have m1:q.e.ch.length + 1 ≤ maxLen:=by unfold maxLen;omega
   have m2:(q.e.ch.length + 1) * 8 ≤ 140737488355328:=by omega
   have HIA:Hid (∀ o:Obj,(W1.alloc o).ownsRow b 3 1 (.slice ph q.e.ch.length ch) q.e.ch.length ((chI q.e.ch).map (Value.int .i64))):=fun o => hI.alloc o
   have hbW:b ≤ W1.heap.size:=by omega
   have HSZ:Hid (∀ o:Obj,b ≤ (W1.alloc o).heap.size):=fun o => by rw [World.size_alloc];omega
   have HTN:Hid (Tr b W1 tb g cap qs):=hTN
   have HKN:Hid (Blk W1 w.heap.size 30 _):=kN
   clear hI
   go_upto_region 13 with (at_builtin;refine wpList_append_own_at _ rfl _ _ 55 rfl b 3 j0 (.int .i64 0) 1 8 Tryz.underlying55 hj hx0 hx1 hx2 rfl (by decide) (.slice ph q.e.ch.length ch) _ _ rfl (HIA.out _) ⟨W1.heap.size,0,none⟩ 1 1 [.int .i64 (qs.length:Int)] rfl rfl (cells_plain _ [_] _) H1 m1 m2 (HSZ.out _) ?_;intro v' w2 hown' hgrow hnil hloc;obtain ⟨g',c',rfl⟩:=shape_of hown';obtain ⟨m7,m8⟩:=HM.out _ w2 hgrow)
   have hT3:=HTN.out.grow hq hown' (by rw [hv];exact hgrow) (by rw [hv];exact hloc)
   have k3:=HTN.out.off (v':=.slice (some ⟨g',0,none⟩) (q.e.ch.length + 1) c') hq (by rw [hv];exact hgrow) HKN.out
   have b3:Below b W1 (w2.setCell ⟨g,p * 8 + 7,none⟩ (.slice (some ⟨g',0,none⟩) (q.e.ch.length + 1) c')):=by
    have h1:=((Below.refl b W1).alloc hbW (.cells #[.int .i64 (qs.length:Int)] 3)).grown hgrow (HSZ.out _) (fun r e => (owns_lt (HIA.out (.cells #[.int .i64 (qs.length:Int)] 3)) e).1)
    exact below_grew h1 (grown_set _ _ _ _) (by have:=h1.size;omega) HTN.out.glt.1
   have hc3:=hcN.below b3
   have ha3:=haN.below b3
   have b03:=bN.trans b3
   have hs3:w.heap.size < (w2.setCell ⟨g,p * 8 + 7,none⟩ (.slice (some ⟨g',0,none⟩) (q.e.ch.length + 1) c')).heap.size:=by have:=b3.size;omega
   clear hcN haN bN b3 hgrow hnil hloc hown' HM HIA HSZ HTN HKN hTN kN hv x0 x5 x6 x7 f7 m7 m8 hltN
   have hls:(qs.set p { q with e:={ q.e with ch:=q.e.ch ++ [qs.length] },hv:=.slice (some ⟨g',0,none⟩) (q.e.ch.length + 1) c' }).length = qs.length:=List.length_set
   have hmap:(qs.set p { q with e:={ q.e with ch:=q.e.ch ++ [qs.length] },hv:=.slice (some ⟨g',0,none⟩) (q.e.ch.length + 1) c' }).map Em.e = growV (qs.map Em.e) p q.e qs.length:=by rw [List.map_set];rfl
   have hq3:(qs.set p { q with e:={ q.e with ch:=q.e.ch ++ [qs.length] },hv:=.slice (some ⟨g',0,none⟩) (q.e.ch.length + 1) c' })[p]? = some { q with e:={ q.e with ch:=q.e.ch ++ [qs.length] },hv:=.slice (some ⟨g',0,none⟩) (q.e.ch.length + 1) c' }:=by rw [List.getElem?_set_self hplt]
   generalize w2.setCell ⟨g,p * 8 + 7,none⟩ (.slice (some ⟨g',0,none⟩) (q.e.ch.length + 1) c') = W3 at *
   generalize qs.set p { q with e:={ q.e with ch:=q.e.ch ++ [qs.length] },hv:=.slice (some ⟨g',0,none⟩) (q.e.ch.length + 1) c' } = rs at *
   have HQ3:Hid (_ = _):=hq3
   have HMap:Hid (_ = _):=hmap
   have HLS:Hid (_ = _):=hls
   have HT:Hid (Tr b W3 tb g cap rs):=hT3
   have HKN:Hid (Blk W3 w.heap.size 30 _):=k3
   have HB:Hid (Below b w W3):=b03
   have HS:Hid (∀ X:World,Below W3.heap.size W3 X → X.cell? ⟨tb,0,none⟩ = some (.slice (some ⟨g,0,none⟩) qs.length cap) ∧ X.cell? ⟨w.heap.size,0,none⟩ = some (.int .i64 (p:Int)) ∧ X.cell? ⟨w.heap.size,1,none⟩ = some (.string tag) ∧ X.cell? ⟨w.heap.size,2,none⟩ = some (.string id) ∧ X.cell? ⟨w.heap.size,3,none⟩ = some (.slice pc cls.length cc) ∧ X.cell? ⟨w.heap.size,4,none⟩ = some (.slice pa ats.length ca) ∧ X.cell? ⟨g,p * 8 + 5,none⟩ = some (.int .i64 q.e.depth) ∧ X.cell? ⟨g,p * 8 + 7,none⟩ = some (.slice (some ⟨g',0,none⟩) (q.e.ch.length + 1) c')):=fun X hX => by
    obtain ⟨⟨e0,e1,e2,e3,e4⟩,_⟩:=blk5 (HKN.out.next hX)
    have hTX:=HT.out.next hX
    obtain ⟨_,_,_,_,_,y5,_,y7⟩:=hTX.get8 HQ3.out
    have y0:=(blk1 hTX.blk).1
    rw [HLS.out] at y0
    exact ⟨y0,e0,e1,e2,e3,e4,y5,y7⟩
   have HK:Hid (Calls Tryz.prog 19 #[ndVal ⟨(p:Int),tag,id,cls,ats⟩ (.slice pc cls.length cc) (.slice pa ats.length ca)] W3.drew _):=kept_any ⟨(p:Int),tag,id,cls,ats⟩ (.slice pc cls.length cc) (.slice pa ats.length ca) W3.drew ((hc3.mono (by omega:b ≤ W3.heap.size)).next (below_drew (Below.refl _ _))) ((ha3.mono (by omega:b ≤ W3.heap.size)).next (below_drew (Below.refl _ _))) HN.out
   unfold ndVal at HK
   have hbW3:b ≤ W3.heap.size:=by omega
   have hwd:IntKind.i64.wrap ((q.e.depth:Int) + 1) = (q.e.depth:Int) + 1:=by rw [IntKind.wrap_i64];omega
   clear hq3 hmap hls hT3 k3 b03 hc3 ha3 HN HCH hml hq
   refine Rg.wpD_begin [1,2,3,4,5,6,7,8,9,10,11,12,13,14,15,16,17,18] (fun X => X.cell? ⟨tb,0,none⟩ = some (.slice (some ⟨g,0,none⟩) qs.length cap) ∧ X.cell? ⟨w.heap.size,0,none⟩ = some (.int .i64 (p:Int)) ∧ X.cell? ⟨w.heap.size,1,none⟩ = some (.string tag) ∧ X.cell? ⟨w.heap.size,2,none⟩ = some (.string id) ∧ X.cell? ⟨w.heap.size,3,none⟩ = some (.slice pc cls.length cc) ∧ X.cell? ⟨w.heap.size,4,none⟩ = some (.slice pa ats.length ca) ∧ X.cell? ⟨g,p * 8 + 5,none⟩ = some (.int .i64 q.e.depth) ∧ X.cell? ⟨g,p * 8 + 7,none⟩ = some (.slice (some ⟨g',0,none⟩) (q.e.ch.length + 1) c')) (by kernel_rfl) ?_
   have q0:Below W3.heap.size W3 W3.drew:=below_drew (Below.refl _ _)
   have HeldS:=HS.out _ q0
   refine Rg.pu 0 ?_
   simp only [Act.put,Rg.sA,Rg.sB,Rg.sC]
   refine Rg.ld 1 HeldS ?_
   simp only [Act.put,Rg.sA,Rg.sB,Rg.sC]
   refine Rg.ld 2 HeldS ?_
   simp only [Act.put,Rg.sA,Rg.sB,Rg.sC]
   refine Rg.ld 3 HeldS ?_
   simp only [Act.put,Rg.sA,Rg.sB,Rg.sC]
   refine Rg.ld 4 HeldS ?_
   simp only [Act.put,Rg.sA,Rg.sB,Rg.sC]
   refine Rg.ld 5 HeldS ?_
   simp only [Act.put,Rg.sA,Rg.sB,Rg.sC]
   refine Rg.ld 7 HeldS ?_
   simp only [Act.put,Rg.sA,Rg.sB,Rg.sC]
   refine Rg.ld 8 HeldS ?_
   simp only [Act.put,Rg.sA,Rg.sB,Rg.sC]
   refine Rg.ld 9 HeldS ?_
   simp only [Act.put,Rg.sA,Rg.sB,Rg.sC]
   refine Rg.ld 10 HeldS ?_
   simp only [Act.put,Rg.sA,Rg.sB,Rg.sC]
   refine Rg.ld 11 HeldS ?_
   simp only [Act.put,Rg.sA,Rg.sB,Rg.sC]
   refine Rg.ld 12 HeldS ?_
   simp only [Act.put,Rg.sA,Rg.sB,Rg.sC]
   refine Rg.ld 13 HeldS ?_
   simp only [Act.put,Rg.sA,Rg.sB,Rg.sC]
   refine Rg.ld 14 HeldS ?_
   simp only [Act.put,Rg.sA,Rg.sB,Rg.sC]
   refine Rg.ld 15 HeldS ?_
   simp only [Act.put,Rg.sA,Rg.sB,Rg.sC]
   refine Rg.ld 16 HeldS ?_
   simp only [Act.put,Rg.sA,Rg.sB,Rg.sC]
   refine Rg.dd 6 fun K hK => ?_
   go_simp
   go_at_call 19
   refine Calls.mono HK.out ?_
   rintro e wK ⟨cv',av',rfl,hcK,haK,bK⟩
   have qK:Below W3.heap.size W3 wK:=below_next q0 bK
   refine hK _ _ (fun _ => HS.out _ qK) ?_
   clear HeldS hK K bK
   have HeldS:=HS.out _ qK
   simp only [lowN]
   refine Rg.ld 17 HeldS ?_
   simp only [Act.put,Rg.sA,Rg.sB,Rg.sC]
   refine Rg.dd 18 fun K hK => ?_
   go_simp
   have qL:Below W3.heap.size W3 (wK.alloc (.cells #[.int .i64 (p:Int),.string (lowS tag),.string id,cv',av',.int .i64 ((q.e.depth:Int) + 1),.int .i64 ((q.e.ch.length:Int) + 1),.slice none 0 0] 73)):=qK.alloc qK.size _
   have hnew:=cells_plain wK [.int .i64 (p:Int),.string (lowS tag),.string id,cv',av',.int .i64 ((q.e.depth:Int) + 1),.int .i64 ((q.e.ch.length:Int) + 1),.slice none 0 0] 73
   refine hK _ _ (fun _ => HS.out _ qL) ?_
   clear HeldS hK K
   have HTK:=HT.out.next qL
   have hrow:=HTK.row
   rw [HLS.out] at hrow
   have H2:∀ u ∈ ([.int .i64 (p:Int),.string (lowS tag),.string id,cv',av',.int .i64 ((q.e.depth:Int) + 1),.int .i64 ((q.e.ch.length:Int) + 1),.slice none 0 0]:List Value),u.oneCell' = true:=emOne hcK haK
   refine Rg.dd 19 fun K hK => ?_
   refine Rg.step_append_fits rfl _ _ 47 rfl b 73 i0 8 Tryz.underlying47 hi hz1 g qs.length cap _ rfl hrow ⟨wK.heap.size,0,none⟩ 1 1 [.int .i64 (p:Int),.string (lowS tag),.string id,cv',av',.int .i64 ((q.e.depth:Int) + 1),.int .i64 ((q.e.ch.length:Int) + 1),.slice none 0 0] rfl rfl hnew H2 (by omega) ?_
   intro w7 hown7 hgrow7
   refine hK _ _ (fun h => absurd h (by decide)) ?_
   clear hK K hnew H2
   have hcL:=hcK.next ((Below.refl _ wK).alloc (Nat.le_refl _) (.cells #[.int .i64 (p:Int),.string (lowS tag),.string id,cv',av',.int .i64 ((q.e.depth:Int) + 1),.int .i64 ((q.e.ch.length:Int) + 1),.slice none 0 0] 73))
   have haL:=haK.next ((Below.refl _ wK).alloc (Nat.le_refl _) (.cells #[.int .i64 (p:Int),.string (lowS tag),.string id,cv',av',.int .i64 ((q.e.depth:Int) + 1),.int .i64 ((q.e.ch.length:Int) + 1),.slice none 0 0] 73))
   have hTz:=HT.out.push (w2:=w7) (q:=⟨⟨lowN ⟨(p:Int),tag,id,cls,ats⟩,q.e.depth + 1,q.e.ch.length + 1,[]⟩,cv',av',.slice none 0 0⟩) qL rfl rfl hcL haL (by rw [HLS.out];exact hown7) hgrow7
   rw [HLS.out] at hTz
   have b7:=(HB.out.trans (qL.mono hbW3)).grown hgrow7 (by have:=qL.size;omega) (fun r e => by cases e;exact HT.out.glt.1)
   have bz:=below_grew b7 (grown_set w7 tb 0 (.slice (some ⟨g,0,none⟩) (qs.length + 1) cap)) (Nat.le_trans hb0 b7.size) HT.out.low
   have k7:=HTK.blk.kept hgrow7 (fun e => row_blk (e:=73) (t:=49) (by decide) HTK.row HTK.blk e.symm)
   obtain ⟨d7,f7⟩:=blk1 k7
   clear HTK qL qK hcL haL hcK haK b7 k7 hrow
   refine Rg.pu 20 ?_
   simp only [Act.put,Rg.sA,Rg.sB,Rg.sC]
   refine Rg.pu 21 ?_
   simp only [Act.put,Rg.sA,Rg.sB,Rg.sC]
   refine Rg.dd 22 fun K hK => ?_
   go_simp
   refine hK _ _ (fun h => absurd h (by decide)) ?_
   clear hK K
   refine Rg.wpD_done (by kernel_rfl) ?_
   go_wp2
   go_ret
   refine ⟨.inl ⟨rs ++ [⟨⟨lowN ⟨(p:Int),tag,id,cls,ats⟩,q.e.depth + 1,q.e.ch.length + 1,[]⟩,cv',av',.slice none 0 0⟩],?_,rfl,hTz⟩,bz⟩
   rw [HAdd3.out,List.map_append,HMap.out]
   rfl
 ·rw [decide_eq_false hin] at hh
  have hadd:addV (qs.map Em.e) n = .error 10:=by
   unfold addV
   rw [if_neg hn0,if_neg (by rw [hml];exact hin)]
  have HAdd:Hid (_ = _):=hadd
  obtain ⟨parent,tag,id,cls,ats⟩:=n
  simp only at a0 hh
  clear hadd hin
  go_wp2_with fail
  refine hh.mono ?_
  clear hh
  rintro e w' ⟨rfl,rfl⟩
  go_wp2
  go_ret
  exact ⟨.inr ⟨10,HAdd.out,rfl⟩,bbA⟩
end Go.Proofs.YtcmmdojlhfmddaaGreat.Dm

/- package dom: what a tree tells of its elements. -/
set_option maxRecDepth 100000
namespace Go.Proofs.YtcmmdojlhfmddaaGreat.Dm
open Go Go.RowKit
theorem len_any (b tb g cap:Nat) (qs:List Em) (w:World) (hT:Tr b w tb g cap qs) :
  Calls Tryz.prog 81 #[.pointer (some ⟨tb,0,none⟩)] w fun x w' => x = .returned (.int .i64 qs.length) ∧ w' = w:=by
 have c0:=(blk1 hT.blk).1
 clear hT
 go_enter Tryz.func81,Tryz.ntmps81
 go_wp2
 go_ret
 exact ⟨rfl,rfl⟩
def elAt (es:List El) (e:Int):Option El:=if 0 ≤ e ∧ e < es.length then es[e.toNat]? else none
def parentV (es:List El) (e:Int):Int:=((elAt es e).map fun q => q.nd.parent).getD (-1)
def placeV (es:List El) (e:Int):Int:=((elAt es e).map fun q => (q.place:Int)).getD 0
def childrenV (es:List El) (e:Int):List Nat:=((elAt es e).map fun q => q.ch).getD []
theorem elAt_no {es:List El} {e:Int} (h:¬ (0 ≤ e ∧ e < es.length)):elAt es e = none:=by unfold elAt;rw [if_neg h]
theorem elAt_yes {es:List El} {k:Nat} {q:El} (h:es[k]? = some q):elAt es (k:Int) = some q:=by
 have hk:k < es.length:=(List.getElem?_eq_some_iff.1 h).1
 unfold elAt
 rw [if_pos ⟨by omega,by omega⟩,Int.toNat_natCast]
 exact h
theorem map_at {qs:List Em} {k:Nat} {q:Em} (h:qs[k]? = some q):(qs.map Em.e)[k]? = some q.e:=by rw [List.getElem?_map,h];rfl
theorem dec_map (qs:List Em) (e:Int):(0 ≤ e ∧ e < (qs.length:Int)) ↔ (0 ≤ e ∧ e < ((qs.map Em.e).length:Int)):=by rw [List.length_map]
set_option maxHeartbeats 1000000 in
theorem parent_any (b tb g cap:Nat) (qs:List Em) (e:Int) (w:World) (hT:Tr b w tb g cap qs) :
  Calls Tryz.prog 144 #[.pointer (some ⟨tb,0,none⟩),.int .i64 e] w fun x w' => x = .returned (.int .i64 (parentV (qs.map Em.e) e)) ∧ w' = w:=by
 have hh:=has_any b tb g cap qs e w hT
 have c0:=(blk1 hT.blk).1
 by_cases hin:0 ≤ e ∧ e < (qs.length:Int)
 ·rw [decide_eq_true hin] at hh
  obtain ⟨k,rfl⟩:∃ k:Nat,e = (k:Int):=⟨e.toNat,by omega⟩
  have hk:k < qs.length:=by omega
  obtain ⟨q,hq⟩:∃ q,qs[k]? = some q:=⟨_,List.getElem?_eq_getElem hk⟩
  have hV:parentV (qs.map Em.e) (k:Int) = q.e.nd.parent:=by unfold parentV;rw [elAt_yes (map_at hq)];rfl
  rw [hV]
  obtain ⟨x0,_,_,_,_,x5,x6,_⟩:=hT.get8 hq
  have hr:=hT.room
  unfold maxLen at hr
  have hki:(k:Int) < (qs.length:Int):=by omega
  clear hT hV hq hin
  go_enter Tryz.func144,Tryz.ntmps144
  go_wp2_with fail
  refine hh.mono ?_
  clear hh
  rintro x w' ⟨rfl,rfl⟩
  go_wp2
  go_ret
  exact ⟨rfl,rfl⟩
 ·rw [decide_eq_false hin] at hh
  have hV:parentV (qs.map Em.e) e = (-1):=by unfold parentV;rw [elAt_no (fun h => hin ((dec_map qs e).2 h))];rfl
  rw [hV]
  clear hT hV hin
  go_enter Tryz.func144,Tryz.ntmps144
  go_wp2_with fail
  refine hh.mono ?_
  clear hh
  rintro x w' ⟨rfl,rfl⟩
  go_wp2
  go_ret
  exact ⟨rfl,rfl⟩
set_option maxHeartbeats 1000000 in
theorem place_any (b tb g cap:Nat) (qs:List Em) (e:Int) (w:World) (hT:Tr b w tb g cap qs) :
  Calls Tryz.prog 149 #[.pointer (some ⟨tb,0,none⟩),.int .i64 e] w fun x w' => x = .returned (.int .i64 (placeV (qs.map Em.e) e)) ∧ w' = w:=by
 have hh:=has_any b tb g cap qs e w hT
 have c0:=(blk1 hT.blk).1
 by_cases hin:0 ≤ e ∧ e < (qs.length:Int)
 ·rw [decide_eq_true hin] at hh
  obtain ⟨k,rfl⟩:∃ k:Nat,e = (k:Int):=⟨e.toNat,by omega⟩
  have hk:k < qs.length:=by omega
  obtain ⟨q,hq⟩:∃ q,qs[k]? = some q:=⟨_,List.getElem?_eq_getElem hk⟩
  have hV:placeV (qs.map Em.e) (k:Int) = (q.e.place:Int):=by unfold placeV;rw [elAt_yes (map_at hq)];rfl
  rw [hV]
  obtain ⟨x0,_,_,_,_,x5,x6,_⟩:=hT.get8 hq
  have hr:=hT.room
  unfold maxLen at hr
  have hki:(k:Int) < (qs.length:Int):=by omega
  clear hT hV hq hin
  go_enter Tryz.func149,Tryz.ntmps149
  go_wp2_with fail
  refine hh.mono ?_
  clear hh
  rintro x w' ⟨rfl,rfl⟩
  go_wp2
  go_ret
  exact ⟨rfl,rfl⟩
 ·rw [decide_eq_false hin] at hh
  have hV:placeV (qs.map Em.e) e = 0:=by unfold placeV;rw [elAt_no (fun h => hin ((dec_map qs e).2 h))];rfl
  rw [hV]
  clear hT hV hin
  go_enter Tryz.func149,Tryz.ntmps149
  go_wp2_with fail
  refine hh.mono ?_
  clear hh
  rintro x w' ⟨rfl,rfl⟩
  go_wp2
  go_ret
  exact ⟨rfl,rfl⟩
end Go.Proofs.YtcmmdojlhfmddaaGreat.Dm

/- slices.Clone; what a tree tells of its elements' children and nodes. -/
set_option maxRecDepth 100000
namespace Go.Proofs.YtcmmdojlhfmddaaGreat.Dm
open Go Go.RowKit
theorem eqInNilStr (d:Nat) (w:World) (p:Option Addr) (n c:Nat):(Op.equalIn (d + 1) 27 (.slice p n c) (.slice none 0 0)).run Tryz.prog w = .ok p.isNone w:=by
 cases p <;> simp [Op.equalIn,run_underlying Tryz.underlying27]
theorem eqlNilStr (w:World) (p:Option Addr) (n c:Nat):(binOp .eql 27 (.slice p n c) (.slice none 0 0)).run Tryz.prog w = .ok (.bool p.isNone) w:=by
 simp only [binOp]
 simp [show Op.equal 27 (.slice p n c) (.slice none 0 0) = Op.equalIn (9999 + 1) 27 (.slice p n c) (.slice none 0 0) from rfl,eqInNilStr 9999 w p n c]
set_option maxHeartbeats 1000000 in
theorem cloneStr_any (v:Value) (l:List ByteArray) (b:Nat) (w:World) (hv:StrRow b w v l) (hl:l.length * 16 ≤ 140737488355328) :
  Calls Tryz.prog 131 #[v] w fun x w' => ∃ v',x = .returned v' ∧ StrRow w.heap.size w' v' l ∧ Below w.heap.size w w':=by
 obtain ⟨i0,hi,hz0,hz1,hz2⟩:=info_parts infoStr
 have hsrc:=SlAt.src (sz:=1) (f:=stCells) (by decide) (fun _ => rfl) (hv.at)
 obtain ⟨p,c,rfl⟩:=owns_form hv
 have he:=eqlNilStr w p l.length c
 cases p with
 | none =>
  have hl0:l = []:=by
   rcases hv.2 with ⟨_,h0⟩ | ⟨g,cap,cur,h0,_⟩
   ·exact List.length_eq_zero_iff.1 h0
   ·cases h0
  subst hl0
  simp only [List.length_nil] at he ⊢
  go_enter Tryz.func131,Tryz.ntmps131
  go_wp2
  go_ret
  exact ⟨_,rfl,World.ownsRow_nil _ _ _ _,Below.refl _ _⟩
 | some ad =>
  rcases hsrc with ⟨h0,_⟩ | ⟨ad',c',h0,hc⟩
  ·cases h0
  ·cases h0
   have H1:∀ u ∈ l.flatMap stCells,u.oneCell' = true:=fun u hu => by
    obtain ⟨x,_,hx⟩:=List.mem_flatMap.1 hu
    simp [stCells] at hx
    subst hx;rfl
   have hfl:(l.flatMap stCells).length = l.length * 1:=flat_length (sz:=1) (f:=stCells) (fun _ => rfl) l
   have b1:Below w.heap.size w (w.alloc (.cells #[] 9)):=(Below.refl _ _).alloc (Nat.le_refl _) _
   have r0:(w.alloc (.cells #[] 9)).ownsRow w.heap.size 9 1 (.slice (some ⟨w.heap.size,0,none⟩) 0 0) 0 []:=World.ownsRow_made w #[] 0 (Nat.le_refl _) (Nat.zero_le _) (by simp)
   have HC:Hid (∀ j u,(l.flatMap stCells)[j]? = some u → (w.alloc (.cells #[] 9)).cell? (ad.add j) = some u):=fun j u hu => (World.cell?_alloc_lt w (.cells #[] 9) (ad.add j) (World.block_lt_of_cell? w _ (hc j u hu))).trans (hc j u hu)
   have m1:0 + l.length ≤ maxLen:=by unfold maxLen;omega
   have m2:(0 + l.length) * 16 ≤ 140737488355328:=by omega
   have hsz:w.heap.size ≤ (w.alloc (.cells #[] 9)).heap.size:=b1.size
   clear hc hv
   go_enter Tryz.func131,Tryz.ntmps131
   go_wp2_with (at_builtin;refine wpList_append_own _ rfl _ _ 27 rfl w.heap.size 9 i0 (.string ⟨#[]⟩) 1 16 Tryz.underlying27 hi hz0 hz1 hz2 rfl (by decide) (.slice (some ⟨w.heap.size,0,none⟩) 0 0) 0 [] rfl r0 ad l.length c (l.flatMap stCells) rfl hfl HC.out H1 m1 m2 hsz ?_;intro v' w' hown' hgrow' hnil')
   go_ret
   refine ⟨v',rfl,?_,b1.grown hgrow' hsz (fun r e => by cases e;exact Nat.le_refl _)⟩
   unfold StrRow
   rw [Nat.zero_add,List.nil_append,flat_st] at hown'
   exact hown'
theorem eqInNilPair (d:Nat) (w:World) (p:Option Addr) (n c:Nat):(Op.equalIn (d + 1) 28 (.slice p n c) (.slice none 0 0)).run Tryz.prog w = .ok p.isNone w:=by
 cases p <;> simp [Op.equalIn,run_underlying Tryz.underlying28]
theorem eqlNilPair (w:World) (p:Option Addr) (n c:Nat):(binOp .eql 28 (.slice p n c) (.slice none 0 0)).run Tryz.prog w = .ok (.bool p.isNone) w:=by
 simp only [binOp]
 simp [show Op.equal 28 (.slice p n c) (.slice none 0 0) = Op.equalIn (9999 + 1) 28 (.slice p n c) (.slice none 0 0) from rfl,eqInNilPair 9999 w p n c]
set_option maxHeartbeats 1000000 in
theorem clonePair_any (v:Value) (l:List (ByteArray × ByteArray)) (b:Nat) (w:World) (hv:PairRow b w v l) (hl:l.length * 32 ≤ 140737488355328) :
  Calls Tryz.prog 132 #[v] w fun x w' => ∃ v',x = .returned v' ∧ PairRow w.heap.size w' v' l ∧ Below w.heap.size w w':=by
 obtain ⟨i0,hi,hz0,hz1,hz2⟩:=info_parts infoPair
 have hsrc:=SlAt.src (sz:=2) (f:=paCells) (by decide) (fun _ => rfl) (hv.at)
 obtain ⟨p,c,rfl⟩:=owns_form hv
 have he:=eqlNilPair w p l.length c
 cases p with
 | none =>
  have hl0:l = []:=by
   rcases hv.2 with ⟨_,h0⟩ | ⟨g,cap,cur,h0,_⟩
   ·exact List.length_eq_zero_iff.1 h0
   ·cases h0
  subst hl0
  simp only [List.length_nil] at he ⊢
  go_enter Tryz.func132,Tryz.ntmps132
  go_wp2
  go_ret
  exact ⟨_,rfl,World.ownsRow_nil _ _ _ _,Below.refl _ _⟩
 | some ad =>
  rcases hsrc with ⟨h0,_⟩ | ⟨ad',c',h0,hc⟩
  ·cases h0
  ·cases h0
   have H1:∀ u ∈ l.flatMap paCells,u.oneCell' = true:=fun u hu => by
    obtain ⟨x,_,hx⟩:=List.mem_flatMap.1 hu
    simp [paCells] at hx
    rcases hx with rfl | rfl <;> rfl
   have hfl:(l.flatMap paCells).length = l.length * 2:=flat_length (sz:=2) (f:=paCells) (fun _ => rfl) l
   have b1:Below w.heap.size w (w.alloc (.cells #[] 114)):=(Below.refl _ _).alloc (Nat.le_refl _) _
   have r0:(w.alloc (.cells #[] 114)).ownsRow w.heap.size 114 2 (.slice (some ⟨w.heap.size,0,none⟩) 0 0) 0 []:=World.ownsRow_made w #[] 0 (Nat.le_refl _) (Nat.zero_le _) (by simp)
   have HC:Hid (∀ j u,(l.flatMap paCells)[j]? = some u → (w.alloc (.cells #[] 114)).cell? (ad.add j) = some u):=fun j u hu => (World.cell?_alloc_lt w (.cells #[] 114) (ad.add j) (World.block_lt_of_cell? w _ (hc j u hu))).trans (hc j u hu)
   have m1:0 + l.length ≤ maxLen:=by unfold maxLen;omega
   have m2:(0 + l.length) * 32 ≤ 140737488355328:=by omega
   have hsz:w.heap.size ≤ (w.alloc (.cells #[] 114)).heap.size:=b1.size
   clear hc hv
   go_enter Tryz.func132,Tryz.ntmps132
   go_wp2_with (at_builtin;refine wpList_append_own _ rfl _ _ 28 rfl w.heap.size 114 i0 (.agg #[.string ⟨#[]⟩,.string ⟨#[]⟩]) 2 32 Tryz.underlying28 hi hz0 hz1 hz2 rfl (by decide) (.slice (some ⟨w.heap.size,0,none⟩) 0 0) 0 [] rfl r0 ad l.length c (l.flatMap paCells) rfl hfl HC.out H1 m1 m2 hsz ?_;intro v' w' hown' hgrow' hnil')
   go_ret
   refine ⟨v',rfl,?_,b1.grown hgrow' hsz (fun r e => by cases e;exact Nat.le_refl _)⟩
   unfold PairRow
   rw [Nat.zero_add,List.nil_append] at hown'
   exact hown'
theorem eqInNilInt (d:Nat) (w:World) (p:Option Addr) (n c:Nat):(Op.equalIn (d + 1) 55 (.slice p n c) (.slice none 0 0)).run Tryz.prog w = .ok p.isNone w:=by
 cases p <;> simp [Op.equalIn,run_underlying Tryz.underlying55]
theorem eqlNilInt (w:World) (p:Option Addr) (n c:Nat):(binOp .eql 55 (.slice p n c) (.slice none 0 0)).run Tryz.prog w = .ok (.bool p.isNone) w:=by
 simp only [binOp]
 simp [show Op.equal 55 (.slice p n c) (.slice none 0 0) = Op.equalIn (9999 + 1) 55 (.slice p n c) (.slice none 0 0) from rfl,eqInNilInt 9999 w p n c]
set_option maxHeartbeats 1000000 in
theorem cloneInt_any (v:Value) (l:List Int) (b:Nat) (w:World) (hv:IntRow b w v l) (hl:l.length * 8 ≤ 140737488355328) :
  Calls Tryz.prog 159 #[v] w fun x w' => ∃ v',x = .returned v' ∧ IntRow w.heap.size w' v' l ∧ Below w.heap.size w w':=by
 obtain ⟨i0,hi,hz0,hz1,hz2⟩:=info_parts infoInt
 have hsrc:=SlAt.src (sz:=1) (f:=inCells) (by decide) (fun _ => rfl) (hv.at)
 obtain ⟨p,c,rfl⟩:=owns_form hv
 have he:=eqlNilInt w p l.length c
 cases p with
 | none =>
  have hl0:l = []:=by
   rcases hv.2 with ⟨_,h0⟩ | ⟨g,cap,cur,h0,_⟩
   ·exact List.length_eq_zero_iff.1 h0
   ·cases h0
  subst hl0
  simp only [List.length_nil] at he ⊢
  go_enter Tryz.func159,Tryz.ntmps159
  go_wp2
  go_ret
  exact ⟨_,rfl,World.ownsRow_nil _ _ _ _,Below.refl _ _⟩
 | some ad =>
  rcases hsrc with ⟨h0,_⟩ | ⟨ad',c',h0,hc⟩
  ·cases h0
  ·cases h0
   have H1:∀ u ∈ l.flatMap inCells,u.oneCell' = true:=fun u hu => by
    obtain ⟨x,_,hx⟩:=List.mem_flatMap.1 hu
    simp [inCells] at hx
    subst hx;rfl
   have hfl:(l.flatMap inCells).length = l.length * 1:=flat_length (sz:=1) (f:=inCells) (fun _ => rfl) l
   have b1:Below w.heap.size w (w.alloc (.cells #[] 3)):=(Below.refl _ _).alloc (Nat.le_refl _) _
   have r0:(w.alloc (.cells #[] 3)).ownsRow w.heap.size 3 1 (.slice (some ⟨w.heap.size,0,none⟩) 0 0) 0 []:=World.ownsRow_made w #[] 0 (Nat.le_refl _) (Nat.zero_le _) (by simp)
   have HC:Hid (∀ j u,(l.flatMap inCells)[j]? = some u → (w.alloc (.cells #[] 3)).cell? (ad.add j) = some u):=fun j u hu => (World.cell?_alloc_lt w (.cells #[] 3) (ad.add j) (World.block_lt_of_cell? w _ (hc j u hu))).trans (hc j u hu)
   have m1:0 + l.length ≤ maxLen:=by unfold maxLen;omega
   have m2:(0 + l.length) * 8 ≤ 140737488355328:=by omega
   have hsz:w.heap.size ≤ (w.alloc (.cells #[] 3)).heap.size:=b1.size
   clear hc hv
   go_enter Tryz.func159,Tryz.ntmps159
   go_wp2_with (at_builtin;refine wpList_append_own _ rfl _ _ 55 rfl w.heap.size 3 i0 (.int .i64 0) 1 8 Tryz.underlying55 hi hz0 hz1 hz2 rfl (by decide) (.slice (some ⟨w.heap.size,0,none⟩) 0 0) 0 [] rfl r0 ad l.length c (l.flatMap inCells) rfl hfl HC.out H1 m1 m2 hsz ?_;intro v' w' hown' hgrow' hnil')
   go_ret
   refine ⟨v',rfl,?_,b1.grown hgrow' hsz (fun r e => by cases e;exact Nat.le_refl _)⟩
   unfold IntRow
   rw [Nat.zero_add,List.nil_append,flat_in] at hown'
   exact hown'
end Go.Proofs.YtcmmdojlhfmddaaGreat.Dm

/- package dom: Children, Node, sibling, Before. -/
set_option maxRecDepth 100000
namespace Go.Proofs.YtcmmdojlhfmddaaGreat.Dm
open Go Go.RowKit
set_option maxHeartbeats 1000000 in
theorem children_any (b tb g cap:Nat) (qs:List Em) (e:Int) (w:World) (hT:Tr b w tb g cap qs) (hO:TreeOk (qs.map Em.e)) (hl:qs.length ≤ 4096) :
  Calls Tryz.prog 147 #[.pointer (some ⟨tb,0,none⟩),.int .i64 e] w fun x w' => ∃ v',x = .returned v' ∧ IntRow w.heap.size w' v' (chI (childrenV (qs.map Em.e) e)) ∧ Below w.heap.size w w':=by
 have hh:=has_any b tb g cap qs e w hT
 have c0:=(blk1 hT.blk).1
 by_cases hin:0 ≤ e ∧ e < (qs.length:Int)
 ·rw [decide_eq_true hin] at hh
  obtain ⟨k,rfl⟩:∃ k:Nat,e = (k:Int):=⟨e.toNat,by omega⟩
  have hk:k < qs.length:=by omega
  obtain ⟨q,hq⟩:∃ q,qs[k]? = some q:=⟨_,List.getElem?_eq_getElem hk⟩
  have hV:childrenV (qs.map Em.e) (k:Int) = q.e.ch:=by unfold childrenV;rw [elAt_yes (map_at hq)];rfl
  rw [hV]
  obtain ⟨_,_,_,_,_,_,_,x7⟩:=hT.get8 hq
  have hfew:=hO.few k q.e (map_at hq)
  rw [List.length_map] at hfew
  have hc:=cloneInt_any q.hv (chI q.e.ch) b w (hT.chs k q hq) (by rw [chI_len];omega)
  have hI:=hT.chs k q hq
  have hr:=hT.room
  unfold maxLen at hr
  have hki:(k:Int) < (qs.length:Int):=by omega
  obtain ⟨ph,ch,hv⟩:=owns_form hI
  rw [hv] at x7 hc
  clear hT hV hq hin hI hv hO
  go_enter Tryz.func147,Tryz.ntmps147
  go_wp2_with fail
  refine hh.mono ?_
  clear hh
  rintro x w' ⟨rfl,rfl⟩
  go_wp2_with fail
  refine hc.mono ?_
  clear hc
  rintro x w2 ⟨v',rfl,hv',b2⟩
  go_wp2
  go_ret
  exact ⟨v',rfl,hv',b2⟩
 ·rw [decide_eq_false hin] at hh
  have hV:childrenV (qs.map Em.e) e = []:=by unfold childrenV;rw [elAt_no (fun h => hin ((dec_map qs e).2 h))];rfl
  rw [hV]
  clear hT hV hin hO
  go_enter Tryz.func147,Tryz.ntmps147
  go_wp2_with fail
  refine hh.mono ?_
  clear hh
  rintro x w' ⟨rfl,rfl⟩
  go_wp2
  go_ret
  exact ⟨_,rfl,World.ownsRow_nil _ _ _ _,Below.refl _ _⟩
def nthI (l:List Nat) (i:Int):Int:=if 0 ≤ i ∧ i < (l.length:Int) then ((l.getD i.toNat 0:Nat):Int) else -1
theorem nthI_yes {l:List Nat} {i c:Nat} (h:l[i]? = some c):nthI l (i:Int) = (c:Int):=by
 have hi:i < l.length:=(List.getElem?_eq_some_iff.1 h).1
 unfold nthI
 rw [if_pos ⟨by omega,by omega⟩,Int.toNat_natCast]
 simp [List.getD,h]
theorem nthI_no {l:List Nat} {i:Int} (h:¬ (0 ≤ i ∧ i < (l.length:Int))):nthI l i = -1:=by unfold nthI;rw [if_neg h]
def sibV (es:List El) (k:Nat) (d:Int):Int:=if (es.getD k zeroEl).nd.parent = -1 then -1 else nthI (childrenV es (es.getD k zeroEl).nd.parent) (((es.getD k zeroEl).place:Int) - 1 + d)
theorem sibV_at {es:List El} {k:Nat} {q:El} (h:es[k]? = some q) (d:Int):sibV es k d = if q.nd.parent = -1 then -1 else nthI (childrenV es q.nd.parent) ((q.place:Int) - 1 + d):=by
 unfold sibV
 rw [show es.getD k zeroEl = q by simp [List.getD,h]]
set_option maxHeartbeats 2000000 in
theorem sibling_any (b tb g cap:Nat) (qs:List Em) (k:Nat) (d:Int) (w:World) (hT:Tr b w tb g cap qs) (hO:TreeOk (qs.map Em.e)) (_hl:qs.length ≤ 4096) (hk:k < qs.length) (hd:d = 1 ∨ d = -1) :
  Calls Tryz.prog 160 #[.pointer (some ⟨tb,0,none⟩),.int .i64 k,.int .i64 d] w fun x w' => x = .returned (.int .i64 (sibV (qs.map Em.e) k d)) ∧ w' = w:=by
 have c0:=(blk1 hT.blk).1
 obtain ⟨q,hq⟩:∃ q,qs[k]? = some q:=⟨_,List.getElem?_eq_getElem hk⟩
 obtain ⟨x0,_,_,_,_,x5,x6,x7⟩:=hT.get8 hq
 have hr:=hT.room
 unfold maxLen at hr
 have hki:(k:Int) < (qs.length:Int):=by omega
 rw [sibV_at (map_at hq)]
 by_cases hk0:k = 0
 ·subst hk0
  have hroot:=(hO.root q.e (map_at hq)).1
  rw [hroot,if_pos rfl]
  rw [hroot] at x0
  clear hT hO hq x5 x6 x7 hroot
  simp only [Nat.zero_mul] at x0
  go_enter Tryz.func160,Tryz.ntmps160
  go_wp2
  go_ret
  exact ⟨rfl,rfl⟩
 ·obtain ⟨p,r',hp,hpk,hr',_,hpl,hpc⟩:=hO.par k q.e (map_at hq) (by omega)
  have hplt:p < qs.length:=by omega
  obtain ⟨r,hrq⟩:∃ r,qs[p]? = some r:=⟨_,List.getElem?_eq_getElem hplt⟩
  obtain rfl:r.e = r':=by rw [map_at hrq] at hr';exact Option.some.inj hr'
  have hcV:childrenV (qs.map Em.e) q.e.nd.parent = r.e.ch:=by unfold childrenV;rw [hp,elAt_yes (map_at hrq)];rfl
  rw [hcV,hp,if_neg (by omega)]
  have hfew:=hO.few p r.e (map_at hrq)
  rw [List.length_map] at hfew
  obtain ⟨_,_,_,_,_,_,_,z7⟩:=hT.get8 hrq
  have hI:=hT.chs p r hrq
  have hat:=hI.at
  unfold IntRow at hI
  rw [chI_len] at hI
  obtain ⟨ph,ch,hv⟩:=owns_form hI
  rw [hv] at z7 hat
  rw [hp] at x0
  have hpi:(p:Int) < (qs.length:Int):=by omega
  have hpn:((p:Int) == -1) = false:=by simp
  have hplace:q.e.place - 1 < r.e.ch.length:=(List.getElem?_eq_some_iff.1 hpc).1
  generalize q.e.place = pl at *
  have hw1:IntKind.i64.wrap ((pl:Int) - 1) = (pl:Int) - 1:=by rw [IntKind.wrap_i64];omega
  have hw2:IntKind.i64.wrap ((pl:Int) - 1 + d) = (pl:Int) - 1 + d:=by rw [IntKind.wrap_i64];omega
  clear hT hO hq hrq hI hv hp hr' hpc hcV x5 x7
  by_cases hneg:(pl:Int) - 1 + d < 0
  ·rw [nthI_no (by omega)]
   clear hat hfew hplace hd
   go_enter Tryz.func160,Tryz.ntmps160
   go_wp2
   go_ret
   exact ⟨rfl,rfl⟩
  ·by_cases hbig:(pl:Int) - 1 + d < (r.e.ch.length:Int)
   ·obtain ⟨i,hi⟩:∃ i:Nat,(pl:Int) - 1 + d = (i:Int):=⟨((pl:Int) - 1 + d).toNat,by omega⟩
    have hil:i < r.e.ch.length:=by omega
    have hci:r.e.ch[i]? = some r.e.ch[i]:=List.getElem?_eq_getElem hil
    rw [hi,nthI_yes hci]
    obtain ⟨bk,off,rfl,_,hcap,hmx,hcell⟩:=hat.get (k:=i) (t:=(r.e.ch[i]:Int)) (by unfold chI;rw [List.getElem?_map,hci];rfl)
    have y0:=hcell 0 _ rfl
    simp only [Nat.mul_one,Nat.add_zero] at y0
    have hw3:IntKind.i64.wrap ((pl:Int) - 1 + d) = (i:Int):=by rw [hw2,hi]
    have hbi:(i:Int) < (r.e.ch.length:Int):=by omega
    rw [chI_len] at hcap
    unfold maxLen at hmx
    generalize r.e.ch[i] = c at *
    clear hcell hfew hplace hd hci hi hw2 hneg hbig
    go_enter Tryz.func160,Tryz.ntmps160
    go_wp2
    go_ret
    exact ⟨rfl,rfl⟩
   ·rw [nthI_no (by omega)]
    have hge:(r.e.ch.length:Int) ≤ (pl:Int) - 1 + d:=by omega
    have hn:decide ((pl:Int) - 1 + d < 0) = false:=decide_eq_false hneg
    clear hat hfew hplace hd hbig
    go_enter Tryz.func160,Tryz.ntmps160
    go_wp2
    go_ret
    exact ⟨rfl,rfl⟩
def beforeV (es:List El) (e:Int):Int:=if 0 ≤ e ∧ e < (es.length:Int) then sibV es e.toNat (-1) else -1
set_option maxHeartbeats 1000000 in
theorem before_any (b tb g cap:Nat) (qs:List Em) (e:Int) (w:World) (hT:Tr b w tb g cap qs) (hO:TreeOk (qs.map Em.e)) (hl:qs.length ≤ 4096) :
  Calls Tryz.prog 150 #[.pointer (some ⟨tb,0,none⟩),.int .i64 e] w fun x w' => x = .returned (.int .i64 (beforeV (qs.map Em.e) e)) ∧ w' = w:=by
 have hh:=has_any b tb g cap qs e w hT
 unfold beforeV
 by_cases hin:0 ≤ e ∧ e < (qs.length:Int)
 ·rw [decide_eq_true hin] at hh
  rw [if_pos ((dec_map qs e).1 hin)]
  obtain ⟨k,rfl⟩:∃ k:Nat,e = (k:Int):=⟨e.toNat,by omega⟩
  have hs:=sibling_any b tb g cap qs k (-1) w hT hO hl (by omega) (.inr rfl)
  rw [Int.toNat_natCast]
  clear hT hO hin
  generalize sibV (qs.map Em.e) k (-1) = r at *
  go_enter Tryz.func150,Tryz.ntmps150
  go_wp2_with fail
  refine hh.mono ?_
  clear hh
  rintro x w' ⟨rfl,rfl⟩
  go_wp2_with fail
  refine hs.mono ?_
  clear hs
  rintro x w2 ⟨rfl,rfl⟩
  go_wp2
  go_ret
  exact ⟨rfl,rfl⟩
 ·rw [decide_eq_false hin] at hh
  rw [if_neg (fun h => hin ((dec_map qs e).2 h))]
  clear hT hO hin
  go_enter Tryz.func150,Tryz.ntmps150
  go_wp2_with fail
  refine hh.mono ?_
  clear hh
  rintro x w' ⟨rfl,rfl⟩
  go_wp2
  go_ret
  exact ⟨rfl,rfl⟩
def nodeV (es:List El) (e:Int):Nd:=((elAt es e).map fun q => q.nd).getD zeroNd
def Noded (n:Nd) (w:World) (x:Ending) (w':World):Prop:=∃ cv av,x = .returned (ndVal n cv av) ∧ StrRow w.heap.size w' cv n.cls ∧ PairRow w.heap.size w' av n.ats ∧ Below w.heap.size w w'
set_option maxHeartbeats 2000000 in
theorem node_any (b tb g cap:Nat) (qs:List Em) (e:Int) (w:World) (hT:Tr b w tb g cap qs) (hN:∀ q ∈ qs,NdOk q.e.nd) :
  Calls Tryz.prog 124 #[.pointer (some ⟨tb,0,none⟩),.int .i64 e] w (Noded (nodeV (qs.map Em.e) e) w):=by
 have bZ:Below w.heap.size w (w.alloc (.cells #[.int .i64 0,.string ⟨#[]⟩,.string ⟨#[]⟩,.slice none 0 0,.slice none 0 0] 30)):=(Below.refl _ _).alloc (Nat.le_refl _) _
 have kZ:Blk (w.alloc (.cells #[.int .i64 0,.string ⟨#[]⟩,.string ⟨#[]⟩,.slice none 0 0,.slice none 0 0] 30)) w.heap.size 30 [.int .i64 0,.string ⟨#[]⟩,.string ⟨#[]⟩,.slice none 0 0,.slice none 0 0]:=Blk.new w 30 [.int .i64 0,.string ⟨#[]⟩,.string ⟨#[]⟩,.slice none 0 0,.slice none 0 0]
 have hTZ:=hT.next bZ
 have hh:=has_any b tb g cap qs e _ hTZ
 unfold Noded ndVal
 by_cases hin:0 ≤ e ∧ e < (qs.length:Int)
 ·rw [decide_eq_true hin] at hh
  obtain ⟨k,rfl⟩:∃ k:Nat,e = (k:Int):=⟨e.toNat,by omega⟩
  have hk:k < qs.length:=by omega
  obtain ⟨q,hq⟩:∃ q,qs[k]? = some q:=⟨_,List.getElem?_eq_getElem hk⟩
  have hV:nodeV (qs.map Em.e) (k:Int) = q.e.nd:=by unfold nodeV;rw [elAt_yes (map_at hq)];rfl
  rw [hV]
  have hNq:=hN q (List.mem_of_getElem? hq)
  clear hN hV hin hT
  go_enter Tryz.func124,Tryz.ntmps124
  go_upto_region 1 with fail
  generalize w.alloc (.cells #[.int .i64 0,.string ⟨#[]⟩,.string ⟨#[]⟩,.slice none 0 0,.slice none 0 0] 30) = W1 at *
  have hlt1:=kZ.lt
  go_wp2_with fail
  refine hh.mono ?_
  clear hh
  rintro x W' ⟨rfl,rfl⟩
  obtain ⟨c0,_⟩:=blk1 hTZ.blk
  obtain ⟨x0,x1,x2,x3,x4,_,_,_⟩:=hTZ.get8 hq
  have hr:=hTZ.room
  unfold maxLen at hr
  have hki:(k:Int) < (qs.length:Int):=by omega
  have hcls:=hTZ.cls k q hq
  have hats:=hTZ.ats k q hq
  have hNc:=hNq.ncls
  have hNa:=hNq.nats
  clear hNq hTZ hq
  obtain ⟨⟨⟨parent,tag,id,cls,ats⟩,dp,pl,chl⟩,cv,av,hv⟩:=q
  simp only at x0 x1 x2 x3 x4 hcls hats hNc hNa
  obtain ⟨pc,cc,rfl⟩:=owns_form hcls
  obtain ⟨pa,ca,rfl⟩:=owns_form hats
  have bN:Below W'.heap.size W' (W'.alloc (.cells #[.int .i64 parent,.string tag,.string id,.slice pc cls.length cc,.slice pa ats.length ca] 30)):=(Below.refl _ _).alloc (Nat.le_refl _) _
  have kN:Blk (W'.alloc (.cells #[.int .i64 parent,.string tag,.string id,.slice pc cls.length cc,.slice pa ats.length ca] 30)) W'.heap.size 30 [.int .i64 parent,.string tag,.string id,.slice pc cls.length cc,.slice pa ats.length ca]:=Blk.new W' 30 [.int .i64 parent,.string tag,.string id,.slice pc cls.length cc,.slice pa ats.length ca]
  have kZ2:=kZ.next bN
  have hc2:=hcls.next bN
  have ha2:=hats.next bN
  have b2:=below_next bZ bN
  have hs2:=bZ.size
  have hne:w.heap.size ≠ W'.heap.size:=by omega
  go_upto_region 4 with fail
  generalize W'.alloc (.cells #[.int .i64 parent,.string tag,.string id,.slice pc cls.length cc,.slice pa ats.length ca] 30) = W2 at *
  generalize W'.heap.size = B at *
  clear x0 x1 x2 x3 x4 c0 hcls hats kZ bZ bN hr
  have HS:Hid (∀ X:World,Below W2.heap.size W2 X → X.cell? ⟨B,3,none⟩ = some (.slice pc cls.length cc) ∧ X.cell? ⟨B,4,none⟩ = some (.slice pa ats.length ca)):=fun X hX => by
   obtain ⟨⟨_,_,_,e3,e4⟩,_⟩:=blk5 (kN.next hX)
   exact ⟨e3,e4⟩
  refine Rg.wpD_begin [0,1,2,3,4,5] (fun X => X.cell? ⟨B,3,none⟩ = some (.slice pc cls.length cc) ∧ X.cell? ⟨B,4,none⟩ = some (.slice pa ats.length ca)) (by kernel_rfl) ?_
  have q0:Below W2.heap.size W2 W2.drew:=below_drew (Below.refl _ _)
  have HC1:=cloneStr_any (.slice pc cls.length cc) cls b W2.drew (hc2.next q0) hNc
  have HeldS:=HS.out _ q0
  refine Rg.ld 0 HeldS ?_
  simp only [Act.put,Rg.sA,Rg.sB,Rg.sC]
  refine Rg.ld 1 HeldS ?_
  simp only [Act.put,Rg.sA,Rg.sB,Rg.sC]
  refine Rg.ld 3 HeldS ?_
  simp only [Act.put,Rg.sA,Rg.sB,Rg.sC]
  refine Rg.ld 4 HeldS ?_
  simp only [Act.put,Rg.sA,Rg.sB,Rg.sC]
  refine Rg.dd 2 fun K hK => ?_
  go_simp
  go_at_call 131
  refine Calls.mono HC1 ?_
  clear HC1
  rintro x wN ⟨cv',rfl,hcN,bN⟩
  have qN:Below W2.heap.size W2 wN:=below_next q0 bN
  refine hK _ _ (fun _ => HS.out _ qN) ?_
  clear hK K
  refine Rg.pu 6 ?_
  simp only [Act.put,Rg.sA,Rg.sB,Rg.sC]
  have HC2:=clonePair_any (.slice pa ats.length ca) ats b wN (ha2.next qN) hNa
  refine Rg.dd 5 fun K hK => ?_
  go_simp
  go_at_call 132
  refine Calls.mono HC2 ?_
  clear HC2
  rintro x wM ⟨av',rfl,haM,bM⟩
  have qM:Below W2.heap.size W2 wM:=below_next qN bM
  refine hK _ _ (fun _ => HS.out _ qM) ?_
  clear hK K HeldS
  have hcM:=hcN.next bM
  have kM:=kN.next qM
  have kZM:=kZ2.next qM
  have bbM:=below_next b2 qM
  obtain ⟨pc',cc',rfl⟩:=owns_form hcM
  obtain ⟨pa',ca',rfl⟩:=owns_form haM
  have k3:=blk_put kM 3 (.slice pc' cls.length cc')
  have k4:=blk_put k3 4 (.slice pa' ats.length ca')
  simp only [List.set_cons_succ,List.set_cons_zero] at k3 k4
  obtain ⟨⟨m0,m1,m2,m3,m4⟩,n0,n1,n2,n3,n4⟩:=blk5 kM
  obtain ⟨⟨o0,o1,o2,o3,o4⟩,r0,r1,r2,r3,r4⟩:=blk5 k3
  refine Rg.dd 7 fun K hK => ?_
  go_simp
  refine hK _ _ (fun h => absurd h (by decide)) ?_
  clear hK K
  refine Rg.pu 8 ?_
  simp only [Act.put,Rg.sA,Rg.sB,Rg.sC]
  refine Rg.dd 9 fun K hK => ?_
  go_simp
  refine hK _ _ (fun h => absurd h (by decide)) ?_
  clear hK K
  refine Rg.wpD_done (by kernel_rfl) ?_
  have g34:wM.grownBy ((wM.setCell ⟨B,3,none⟩ (.slice pc' cls.length cc')).setCell ⟨B,4,none⟩ (.slice pa' ats.length ca')) (some B):=(grown_set _ _ _ _).trans (grown_set _ _ _ _)
  have hcX:=hcM.kept g34 (.inr (row_blk (e:=9) (t:=30) (by decide) hcM kM))
  have haX:=haM.kept g34 (.inr (row_blk (e:=114) (t:=30) (by decide) haM kM))
  have kZX:=kZM.kept g34 (fun e => hne (by simpa using e))
  have bX:=below_grew bbM g34 bbM.size (by omega)
  generalize (wM.setCell ⟨B,3,none⟩ (.slice pc' cls.length cc')).setCell ⟨B,4,none⟩ (.slice pa' ats.length ca') = WX at *
  clear m0 m1 m2 m3 m4 n0 n1 n2 n3 n4 o0 o1 o2 o3 o4 r0 r1 r2 r3 r4 kM k3 kZM hcM haM bbM
  obtain ⟨⟨y0,y1,y2,y3,y4⟩,_⟩:=blk5 k4
  obtain ⟨⟨t0,t1,t2,t3,t4⟩,f0,f1,f2,f3,f4⟩:=blk5 kZX
  have kW:=blk_set5 kZX (.int .i64 parent) (.string tag) (.string id) (.slice pc' cls.length cc') (.slice pa' ats.length ca')
  have gW:=grown_set5 WX w.heap.size (.int .i64 parent) (.string tag) (.string id) (.slice pc' cls.length cc') (.slice pa' ats.length ca')
  have hR9:=owns_base (b':=w.heap.size) (hcX.kept gW (.inr (row_blk (e:=9) (t:=30) (by decide) hcX kZX))) (by have h0:W2.drew.heap.size = W2.heap.size:=rfl;have h2:=b2.size;omega)
  have hP9:=owns_base (b':=w.heap.size) (haX.kept gW (.inr (row_blk (e:=114) (t:=30) (by decide) haX kZX))) (by have h1:=qM.size;have h2:=b2.size;have h3:=qN.size;omega)
  have b9:=below_grew bX gW bX.size (Nat.le_refl _)
  unfold set5 at kW hR9 hP9 b9
  clear gW kZX hcX haX k4
  go_wp2
  refine bodyPost_ret (results_struct rfl _ _ _ _ rfl (load_node kW)) rfl ?_
  exact ⟨_,_,rfl,hR9,hP9,b9⟩
 ·rw [decide_eq_false hin] at hh
  have hV:nodeV (qs.map Em.e) e = zeroNd:=by unfold nodeV;rw [elAt_no (fun h => hin ((dec_map qs e).2 h))];rfl
  rw [hV]
  unfold zeroNd
  clear hV hin hN hT hTZ
  go_enter Tryz.func124,Tryz.ntmps124
  go_upto_region 1 with fail
  generalize w.alloc (.cells #[.int .i64 0,.string ⟨#[]⟩,.string ⟨#[]⟩,.slice none 0 0,.slice none 0 0] 30) = W1 at *
  go_wp2_with fail
  refine hh.mono ?_
  clear hh
  rintro x W' ⟨rfl,rfl⟩
  have kW:=blk_set5 kZ (.int .i64 0) (.string ⟨#[]⟩) (.string ⟨#[]⟩) (.slice none 0 0) (.slice none 0 0)
  have gW:=grown_set5 W' w.heap.size (.int .i64 0) (.string ⟨#[]⟩) (.string ⟨#[]⟩) (.slice none 0 0) (.slice none 0 0)
  have b9:=below_grew bZ gW bZ.size (Nat.le_refl _)
  obtain ⟨⟨t0,t1,t2,t3,t4⟩,f0,f1,f2,f3,f4⟩:=blk5 kZ
  unfold set5 at kW b9
  clear gW
  go_wp2
  refine bodyPost_ret (results_struct rfl _ _ _ _ rfl (load_node kW)) rfl ?_
  exact ⟨_,_,rfl,World.ownsRow_nil _ _ _ _,World.ownsRow_nil _ _ _ _,b9⟩
end Go.Proofs.YtcmmdojlhfmddaaGreat.Dm
