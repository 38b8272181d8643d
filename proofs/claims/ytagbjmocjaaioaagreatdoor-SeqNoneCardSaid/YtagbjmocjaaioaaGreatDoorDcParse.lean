/- The declarations of tokens, in plain words over lists (chapter 6): no program in this text. -/
import Derived.Test.YtagbjmocjaaioaaGreatDoorRsMem
import Derived.Test.YtagbjmocjaaioaaGreatDoorRsSkip
import Derived.Test.YtagbjmocjaaioaaGreatDoorSeqZ
import Derived.Test.YtagbjmocjaaioaaGreatDoorAlive
import Derived.Test.YtagbjmocjaaioaaGreatDoorAppSrc
import Derived.Test.YtagbjmocjaaioaaGreatDoorDcLow
import Derived.OwnWalk
import Derived.Deep.CutBlock
import Derived.Deep.DeepCutAuto
import Derived.Deep.RegionWith
import Derived.RangeFuncBox
import Derived.Laws.Rows
import Derived.Deep.RegionHeld
import Derived.Deep.AppendLies
import Derived.Deep.RegionLaw
namespace Go.Proofs.YtagbjmocjaaioaaGreatDoor.Dc
/-! ### white at the ends -/
def isW (t:Bt):Bool:=t.kind == 9
def dropW (l:List Bt):List Bt:=l.dropWhile isW
def endW (l:List Bt):List Bt:=(l.reverse.dropWhile isW).reverse
theorem dropW_yes {t:Bt} {l:List Bt} (h:t.kind = 9):dropW (t :: l) = dropW l:=by
 unfold dropW
 rw [List.dropWhile_cons,if_pos (by simp [isW,h])]
theorem dropW_no {t:Bt} {l:List Bt} (h:t.kind ≠ 9):dropW (t :: l) = t :: l:=by
 unfold dropW
 rw [List.dropWhile_cons,if_neg (by simp [isW,h])]
theorem endW_yes {t:Bt} {l:List Bt} (h:t.kind = 9):endW (l ++ [t]) = endW l:=by
 unfold endW
 rw [List.reverse_append,List.reverse_singleton,List.singleton_append,List.dropWhile_cons,if_pos (by simp [isW,h])]
theorem endW_no {t:Bt} {l:List Bt} (h:t.kind ≠ 9):endW (l ++ [t]) = l ++ [t]:=by
 unfold endW
 rw [List.reverse_append,List.reverse_singleton,List.singleton_append,List.dropWhile_cons,if_neg (by simp [isW,h]),List.reverse_cons,List.reverse_reverse]
theorem dropW_len (l:List Bt):(dropW l).length ≤ l.length:=(List.dropWhile_sublist _).length_le
theorem endW_len (l:List Bt):(endW l).length ≤ l.length:=by
 unfold endW
 rw [List.length_reverse]
 have:=(List.dropWhile_sublist isW (l:=l.reverse)).length_le
 rwa [List.length_reverse] at this
theorem dropW_mem {l:List Bt} {t:Bt} (h:t ∈ dropW l):t ∈ l:=(List.dropWhile_sublist _).mem h
theorem endW_mem {l:List Bt} {t:Bt} (h:t ∈ endW l):t ∈ l:=by
 unfold endW at h
 rw [List.mem_reverse] at h
 exact List.mem_reverse.1 ((List.dropWhile_sublist _).mem h)
theorem split_last {l:List Bt} (h:l ≠ []):∃ a t,l = a ++ [t]:=⟨l.dropLast,l.getLast h,(List.dropLast_concat_getLast h).symm⟩
/-! ### lowered texts -/
def lowC (c:UInt8):UInt8:=if 65 ≤ c.toNat ∧ c.toNat ≤ 90 then UInt8.ofNat (c.toNat + 32) else c
def lowT (s:ByteArray):ByteArray:=⟨(s.data.toList.map lowC).toArray⟩
def importantT:ByteArray:=⟨#[105,109,112,111,114,116,97,110,116]⟩
/-! ### a declaration -/
structure Dc where
 name:ByteArray
 value:List Bt
 imp:Bool
deriving DecidableEq
def lastT (l:List Bt):Option (List Bt × Bt):=(endW l).getLast?.map fun t => ((endW l).dropLast,t)
def isMarkWord (t:Bt):Bool:=t.kind == 1 && decide (lowT t.text = importantT)
def isMarkSign (t:Bt):Bool:=t.kind == 10 && t.c == 33
def unmark (v:List Bt):List Bt × Bool:=
 match lastT v with
 | none => (v,false)
 | some (a,w) => if isMarkWord w then
   match lastT a with
   | none => (v,false)
   | some (b,s) => if isMarkSign s then (endW b,true) else (v,false)
  else (v,false)
def declOf:List Bt → Option Dc
 | [] => none
 | t :: r => if t.kind = 1 then
   match dropW r with
   | [] => none
   | c :: v => if c.kind = 11 then some ⟨lowT t.text,(unmark (endW (dropW v))).1,(unmark (endW (dropW v))).2⟩ else none
  else none
theorem lastT_nil {l:List Bt} (h:endW l = []):lastT l = none:=by simp [lastT,h]
theorem lastT_some {l a:List Bt} {t:Bt} (h:endW l = a ++ [t]):lastT l = some (a,t):=by simp [lastT,h]
/-! ### all -/
def isSemi (k:Int):Bool:=[12].contains k
def isEnd (k:Int):Bool:=[12,14].contains k
def declsF:Nat → List Bt → List Dc
 | 0,_ => []
 | _ + 1,[] => []
 | f + 1,t :: r =>
  if t.kind = 9 ∨ t.kind = 12 then declsF f r
  else if t.kind = 2 then declsF f (r.drop (upto isEnd (kds r) + run [] ((kds r).drop (upto isEnd (kds r)))))
  else (declOf ((t :: r).take (upto isSemi (kds (t :: r))))).toList ++ declsF f ((t :: r).drop (upto isSemi (kds (t :: r))))
def decls (ts:List Bt):List Dc:=declsF ts.length ts
theorem isSemi_no {k:Int} (h:k ≠ 12):isSemi k = false:=by simp [isSemi,h]
theorem upto_semi_pos {t:Bt} {r:List Bt} (h:t.kind ≠ 12):0 < upto isSemi (kds (t :: r)):=by
 rw [kds_cons,upto_cons,isSemi_no h,if_neg (by decide)]
 have:=run_pos [] t.kind (kds r)
 omega
theorem declsF_more:∀ (f g:Nat) (l:List Bt),l.length ≤ f → l.length ≤ g → declsF f l = declsF g l
 | 0,0,_,_,_ => rfl
 | 0,g + 1,l,hf,_ => by
  have:l = []:=List.length_eq_zero_iff.1 (by omega)
  subst this
  rfl
 | f + 1,0,l,_,hg => by
  have:l = []:=List.length_eq_zero_iff.1 (by omega)
  subst this
  rfl
 | f + 1,g + 1,[],_,_ => rfl
 | f + 1,g + 1,t :: r,hf,hg => by
  rw [List.length_cons] at hf hg
  have h1:=declsF_more f g r (by omega) (by omega)
  have h2:=declsF_more f g (r.drop (upto isEnd (kds r) + run [] ((kds r).drop (upto isEnd (kds r))))) (by rw [List.length_drop];omega) (by rw [List.length_drop];omega)
  simp only [declsF,h1,h2]
  split
  ·rfl
  ·rename_i h
   split
   ·rfl
   ·have hp:=upto_semi_pos (r:=r) (t:=t) (by omega)
    rw [declsF_more f g ((t :: r).drop (upto isSemi (kds (t :: r)))) (by rw [List.length_drop,List.length_cons];omega) (by rw [List.length_drop,List.length_cons];omega)]
theorem decls_nil:decls [] = []:=rfl
theorem decls_pass {t:Bt} {r:List Bt} (h:t.kind = 9 ∨ t.kind = 12):decls (t :: r) = decls r:=by
 unfold decls
 rw [List.length_cons,declsF,if_pos h]
theorem decls_at {t:Bt} {r:List Bt} (h:t.kind = 2):decls (t :: r) = decls (r.drop (upto isEnd (kds r) + run [] ((kds r).drop (upto isEnd (kds r))))):=by
 unfold decls
 rw [List.length_cons,declsF,if_neg (by omega),if_pos h]
 exact declsF_more _ _ _ (by rw [List.length_drop];omega) (Nat.le_refl _)
theorem decls_one {t:Bt} {r:List Bt} (h9:t.kind ≠ 9) (h12:t.kind ≠ 12) (h2:t.kind ≠ 2) :
  decls (t :: r) = (declOf ((t :: r).take (upto isSemi (kds (t :: r))))).toList ++ decls ((t :: r).drop (upto isSemi (kds (t :: r)))):=by
 have hp:=upto_semi_pos (r:=r) h12
 unfold decls
 rw [List.length_cons,declsF,if_neg (by omega),if_neg h2]
 congr 1
 exact declsF_more _ _ _ (by rw [List.length_drop,List.length_cons];omega) (Nat.le_refl _)
end Go.Proofs.YtagbjmocjaaioaaGreatDoor.Dc

/- decl.afterWhite, decl.beforeWhite and the document's own trim, at every slice of tokens. -/
set_option maxRecDepth 100000
namespace Go.Proofs.YtagbjmocjaaioaaGreatDoor.Dc
open Go Go.RowKit Go.Shelf
def lenOf:Value → Nat
 | .slice _ n _ => n
 | _ => 0
end Go.Proofs.YtagbjmocjaaioaaGreatDoor.Dc
namespace Go.Proofs.YtagbjmocjaaioaaGreatDoor
open Go Go.RowKit Go.Shelf
theorem BtsAt.first {n₀:Nat} {X:World} {v:Value} {t:Bt} {r:List Bt} (h:BtsAt n₀ X v (t :: r)) :
  ∃ bk off cap,v = .slice (some ⟨bk,off,none⟩) (r.length + 1) cap ∧ r.length + 1 ≤ cap ∧ cap ≤ maxLen ∧ bk < n₀ ∧ BtAt X bk off t ∧ BtsAt n₀ X (.slice (if cap = 1 then some ⟨bk,off,none⟩ else some ⟨bk,off + 5,none⟩) r.length (cap - 1)) r:=by
 rcases h with ⟨h,_⟩ | ⟨bk,off,cap,rfl,h1,h2,hb,h⟩
 ·cases h
 ·refine ⟨bk,off,cap,rfl,h1,h2,hb,by simpa using h 0 t rfl,?_⟩
  rw [List.length_cons] at h1
  by_cases hc:cap = 1
  ·have hr:r = []:=List.length_eq_zero_iff.1 (by omega)
   subst hr
   rw [if_pos hc]
   exact .inl ⟨rfl,.inr ⟨_,_,rfl,by omega⟩⟩
  ·rw [if_neg hc]
   refine .inr ⟨bk,off + 5,cap - 1,rfl,by omega,by omega,hb,fun j u hj => ?_⟩
   have:=h (j + 1) u (by simpa using hj)
   rwa [show off + (j + 1) * 5 = off + 5 + j * 5 by omega] at this
theorem BtsAt.last {n₀:Nat} {X:World} {v:Value} {t:Bt} {r:List Bt} (h:BtsAt n₀ X v (r ++ [t])) :
  ∃ bk off cap,v = .slice (some ⟨bk,off,none⟩) (r.length + 1) cap ∧ r.length + 1 ≤ cap ∧ cap ≤ maxLen ∧ bk < n₀ ∧ BtAt X bk (off + r.length * 5) t ∧ BtsAt n₀ X (.slice (some ⟨bk,off,none⟩) r.length cap) r:=by
 rcases h with ⟨h,_⟩ | ⟨bk,off,cap,rfl,h1,h2,hb,h⟩
 ·simp at h
 ·rw [List.length_append,List.length_singleton] at h1 ⊢
  refine ⟨bk,off,cap,rfl,h1,h2,hb,h r.length t (by simp),?_⟩
  refine .inr ⟨bk,off,cap,rfl,by omega,h2,hb,fun j u hj => ?_⟩
  exact h j u (by rw [List.getElem?_append_left (List.getElem?_eq_some_iff.1 hj).1];exact hj)
theorem BtsAt.empty {n₀:Nat} {X:World} {v:Value} (h:BtsAt n₀ X v []):∃ p cap,v = .slice p 0 cap:=by
 obtain ⟨p,cap,rfl⟩:=h.len
 exact ⟨p,cap,rfl⟩
end Go.Proofs.YtagbjmocjaaioaaGreatDoor
namespace Go.Proofs.YtagbjmocjaaioaaGreatDoor.Dc
open Go Go.RowKit Go.Shelf
set_option maxHeartbeats 1000000 in
theorem afterWhite_any (v:Value) (l:List Bt) (w:World) (n₀:Nat) (hv:BtsAt n₀ w v l) :
  Calls Tryz.prog 161 #[v] w fun e w' => ∃ v',e = .returned v' ∧ BtsAt n₀ w v' (dropW l) ∧ w' = w:=by
 obtain ⟨A,hA⟩:∃ A,dropW l = A:=⟨_,rfl⟩
 rw [hA]
 go_enter Tryz.func161,Tryz.ntmps161
 go_wp2
 go_loopw [0] (fun x wr => ∃ (l':List Bt) (v':Value),v' = x ∧ BtsAt n₀ w v' l' ∧ dropW l' = A ∧ wr = w) (fun x _ => lenOf x)
 case atStart => exact ⟨l,_,rfl,hv,hA,rfl⟩
 case round =>
  clear hA hv
  obtain ⟨l',v',rfl,hv,hA,rfl⟩:=hrel
  cases l' with
  | nil =>
   obtain rfl:[] = A:=hA
   have hv2:=hv
   obtain ⟨p,cap,rfl⟩:=hv.empty
   clear hv
   go_wp2
   go_ret
   exact ⟨_,rfl,hv2,rfl⟩
  | cons t r =>
   obtain ⟨bk,off,cap,rfl,h1,h2,hb,⟨hc,_⟩,hr⟩:=hv.first
   have hpos:(0:Int) < (r.length:Int) + 1:=by omega
   have hcp:(1:Int) ≤ (cap:Int):=by omega
   have hr1:(1:Int) ≤ (r.length:Int) + 1:=by omega
   unfold maxLen at h2
   have hr2:((r.length + 1:Nat):Int) ≤ (cap:Int):=by omega
   by_cases h9:t.kind = 9
   ·rw [h9] at hc
    have HA:Hid (dropW r = A):=by show _ = _;rw [← hA,dropW_yes h9]
    clear hA hv h9
    by_cases hc1:cap = 1
    ·subst hc1
     obtain rfl:r = []:=List.length_eq_zero_iff.1 (by omega)
     rw [if_pos rfl] at hr
     go_wp2
     exact ⟨⟨[],_,rfl,hr,HA,by first | rfl | trivial⟩,by simp [lenOf]⟩
    ·rw [if_neg hc1] at hr
     go_wp2
     exact ⟨⟨r,_,rfl,hr,HA,by first | rfl | trivial⟩,by simp [lenOf]⟩
   ·obtain rfl:t :: r = A:=by rw [← hA,dropW_no h9]
    have h9':(t.kind == 9) = false:=by simpa using h9
    clear hA hr
    generalize t.kind = k at hc h9'
    clear h9
    go_wp2
    go_ret
    exact ⟨_,rfl,hv,rfl⟩
set_option maxHeartbeats 1000000 in
theorem beforeWhite_any (v:Value) (l:List Bt) (w:World) (n₀:Nat) (hv:BtsAt n₀ w v l) :
  Calls Tryz.prog 163 #[v] w fun e w' => ∃ v',e = .returned v' ∧ BtsAt n₀ w v' (endW l) ∧ w' = w:=by
 obtain ⟨A,hA⟩:∃ A,endW l = A:=⟨_,rfl⟩
 rw [hA]
 go_enter Tryz.func163,Tryz.ntmps163
 go_wp2
 go_loopw [0] (fun x wr => ∃ (l':List Bt) (v':Value),v' = x ∧ BtsAt n₀ w v' l' ∧ endW l' = A ∧ wr = w) (fun x _ => lenOf x)
 case atStart => exact ⟨l,_,rfl,hv,hA,rfl⟩
 case round =>
  clear hA hv
  obtain ⟨l',v',rfl,hv,hA,rfl⟩:=hrel
  by_cases hl:l' = []
  ·subst hl
   obtain rfl:[] = A:=hA
   have hv2:=hv
   obtain ⟨p,cap,rfl⟩:=hv.empty
   clear hv
   go_wp2
   go_ret
   exact ⟨_,rfl,hv2,rfl⟩
  ·obtain ⟨r,t,rfl⟩:=split_last hl
   obtain ⟨bk,off,cap,rfl,h1,h2,hb,⟨hc,_⟩,hr⟩:=hv.last
   clear hl
   unfold maxLen at h2
   have hpos:(0:Int) < (r.length:Int) + 1:=by omega
   have hsub:IntKind.i64.wrap ((r.length:Int) + 1 - 1) = (r.length:Int):=by rw [IntKind.wrap_i64];omega
   have hr1:(r.length:Int) ≤ (cap:Int):=by omega
   have hr2:¬ cap = 0:=by omega
   by_cases h9:t.kind = 9
   ·rw [h9] at hc
    have HA:Hid (endW r = A):=by show _ = _;rw [← hA,endW_yes h9]
    clear hA hv h9
    go_wp2
    exact ⟨⟨r,_,rfl,hr,HA,by first | rfl | trivial⟩,by simp [lenOf]⟩
   ·obtain rfl:r ++ [t] = A:=by rw [← hA,endW_no h9]
    have h9':(t.kind == 9) = false:=by simpa using h9
    clear hA hr
    generalize t.kind = k at hc h9'
    clear h9
    go_wp2
    go_ret
    exact ⟨_,rfl,hv,rfl⟩
end Go.Proofs.YtagbjmocjaaioaaGreatDoor.Dc

/- decl.things as an iterator, decl.upTo at every place of a slice of tokens that is not too long. -/
set_option maxRecDepth 100000
namespace Go.Proofs.YtagbjmocjaaioaaGreatDoor.Dc
open Go Go.RowKit Go.Shelf
attribute [local go_sem] Oper.semAt_some
/-! ### where things begin -/
def startsF (ks:List Int):Nat → Nat → List Nat
 | 0,_ => []
 | f + 1,i => if i < ks.length then i :: startsF ks f (i + run [] (ks.drop i)) else []
def starts (ks:List Int) (i:Nat):List Nat:=startsF ks (ks.length - i) i
theorem run_drop_pos {ks:List Int} {i:Nat} (h:i < ks.length):0 < run [] (ks.drop i):=by
 rw [List.drop_eq_getElem_cons h]
 exact run_pos _ _ _
theorem run_drop_le (ks:List Int) (i:Nat):run [] (ks.drop i) ≤ ks.length - i:=by
 have:=run_le [] (ks.drop i)
 rwa [List.length_drop] at this
theorem startsF_more (ks:List Int):∀ (f g i:Nat),ks.length - i ≤ f → ks.length - i ≤ g → startsF ks f i = startsF ks g i
 | 0,0,_,_,_ => rfl
 | 0,g + 1,i,hf,_ => by rw [startsF,startsF,if_neg (by omega)]
 | f + 1,0,i,_,hg => by rw [startsF,startsF,if_neg (by omega)]
 | f + 1,g + 1,i,hf,hg => by
  rw [startsF,startsF]
  by_cases h:i < ks.length
  ·have:=run_drop_pos h
   rw [if_pos h,if_pos h,startsF_more ks f g _ (by omega) (by omega)]
  ·rw [if_neg h,if_neg h]
theorem starts_in {ks:List Int} {i:Nat} (h:i < ks.length):starts ks i = i :: starts ks (i + run [] (ks.drop i)):=by
 have:=run_drop_pos h
 unfold starts
 rw [show ks.length - i = (ks.length - i - 1) + 1 by omega,startsF,if_pos h,startsF_more ks _ (ks.length - (i + run [] (ks.drop i))) _ (by omega) (Nat.le_refl _)]
theorem starts_out {ks:List Int} {i:Nat} (h:ks.length ≤ i):starts ks i = []:=by
 unfold starts
 rw [show ks.length - i = 0 by omega]
 rfl
def kd (ks:List Int) (x:Nat):Int:=(ks[x]?).getD 0
theorem upto_starts (p:Int → Bool) (ks:List Int):∀ (n i:Nat),ks.length - i ≤ n → i ≤ ks.length → i + upto p (ks.drop i) = ((starts ks i).find? fun x => p (kd ks x)).getD ks.length
 | 0,i,hn,hi => by
  have e:i = ks.length:=by omega
  rw [starts_out (by omega),List.drop_eq_nil_iff.2 (by omega),upto_nil,e]
  rfl
 | n + 1,i,hn,hi => by
  by_cases h:i < ks.length
  ·have hp:=run_drop_pos h
   have hl:=run_drop_le ks i
   have ih:=upto_starts p ks n (i + run [] (ks.drop i)) (by omega) (by omega)
   rw [starts_in h,List.find?_cons]
   have hk:kd ks i = ks[i]:=by simp [kd,h]
   have hd:=List.drop_eq_getElem_cons h
   cases hc:p ks[i] with
   | true =>
    rw [hk,hc,hd,upto_cons,hc]
    simp
   | false =>
    rw [hk,hc]
    show _ = ((starts ks (i + run [] (ks.drop i))).find? fun x => p (kd ks x)).getD ks.length
    rw [← ih,← List.drop_drop]
    conv => lhs;rw [hd,upto_cons,hc,if_neg (by decide),← hd]
    omega
  ·have e:i = ks.length:=by omega
   rw [starts_out (by omega),List.drop_eq_nil_iff.2 (by omega),upto_nil,e]
   rfl
/-! ### the iterator -/
theorem grown_of_below' {w w':World} (h:Below w.heap.size w w') (row:Option Nat):w.grownBy w' row:=⟨h.os,h.tape,h.output,h.size,fun i hi _ => h.block i hi⟩
set_option maxHeartbeats 2000000 in
theorem things1_in (n l Bi Bv n₀:Nat) (v:Value) (ts:List Bt) (i:Nat) (J Jx:List Nat → World → Prop) (W:World) (_hBi:Bi < n₀) (hBv:Bv < n₀) (hn₀:n₀ ≤ W.heap.size)
  (hJ:AbidesIn W.heap.size W.heap.size J)
  (hY:∀ pre x W1,J pre W1 → (∃ rest,pre ++ x :: rest = starts (kds ts) i) → W.heap.size ≤ W1.heap.size → YieldAt Fence.wide (n - 1) Tryz.prog l #[.int .i64 (x:Nat)] W1 fun e W' => (e = .returned (.bool true) ∧ J (pre ++ [x]) W' ∧ Below n₀ W1 W') ∨ (e = .returned (.bool false) ∧ Jx (pre ++ [x]) W'))
  (hci:W.cell? ⟨Bi,0,none⟩ = some (.int .i64 i)) (hcv:W.cell? ⟨Bv,0,none⟩ = some v) (hv:BtsAt n₀ W v ts) (hi:i ≤ ts.length) (hl:ts.length ≤ 1000000) (h0:J [] W) :
  CallsIn Fence.wide n Tryz.prog 205 #[.func (.yield l) #[] #[],.pointer (some ⟨Bi,0,none⟩),.pointer (some ⟨Bv,0,none⟩)] W fun e W' => (∃ v,e = .returned v) ∧ ((∃ xs,xs = starts (kds ts) i ∧ J xs W') ∨ (∃ pre,True ∧ Jx pre W')):=by
 obtain ⟨p,cap,rfl⟩:=hv.len
 refine callsIn_of_wp Tryz.func205 rfl trivial ?_ rfl
 simp only [Tryz.ntmps205,List.size_toArray,List.length_cons,List.length_nil,Nat.reduceAdd,Nat.reduceSub,Array.replicate_succ,Array.replicate_zero,List.push_toArray,List.append_toArray,List.nil_append,List.cons_append]
 gi_wp2
 gi_loopw [4] (fun x wr => ∃ (k:Nat) (pre:List Nat),x = .int .i64 k ∧ k ≤ ts.length ∧ starts (kds ts) i = pre ++ starts (kds ts) k ∧ J pre wr ∧ Below n₀ W wr) (fun x _ => ts.length - (intOf x).toNat)
 case atStart => exact ⟨i,[],rfl,hi,rfl,h0,Below.refl _ _⟩
 case round =>
  clear hci
  obtain ⟨k,pre,rfl,hk,hx,hJs,hb⟩:=hrel
  have hcv':=(hb.cell (p:=⟨Bv,0,none⟩) hBv).trans hcv
  have hkl:=kds_length ts
  by_cases hlt:k < ts.length
  ·have hki:(k:Int) < (ts.length:Int):=by omega
   have hst:=starts_in (ks:=kds ts) (i:=k) (by omega)
   have hrp:=run_drop_pos (ks:=kds ts) (i:=k) (by omega)
   have hrl:=run_drop_le (kds ts) k
   obtain ⟨fn,tmps,assign,body,hy,hR⟩:=hY pre k wr hJs ⟨_,by rw [hx,hst]⟩ hb.size
   have HX:Hid (starts (kds ts) i = (pre ++ [k]) ++ starts (kds ts) (k + run [] ((kds ts).drop k))):=by
    show _ = _
    rw [hx,hst]
    simp
   clear hx hst hY
   gi_wp2_with fail
   refine ⟨fun h => (by cases h),hR.mono ?_⟩
   rintro e w2 (⟨rfl,hJ2,hb2⟩ | ⟨rfl,hJ2⟩)
   ·have hcv2:=(hb2.cell (p:=⟨Bv,0,none⟩) hBv).trans hcv'
    have hB2:=hb.trans hb2
    have hsk:=skip_in (.slice p ts.length cap) ts k w2 ((hv.below hB2).mono (Nat.le_trans hn₀ hB2.size)) hlt hl
    generalize run [] ((kds ts).drop k) = m at *
    gi_wp2_with fail
    refine ⟨trivial,fun h => (by cases h),?_⟩
    refine (callsIn_wide.2 hsk).mono ?_
    clear hsk
    rintro e w3 ⟨rfl,hb3⟩
    have hJ3:J (pre ++ [k]) w3:=hJ _ w2 w3 none hJ2 (grown_of_below' hb3 none) (fun _ e => by cases e)
    gi_wp2
    go_roundw
    case rel => exact ⟨k + m,pre ++ [k],rfl,by omega,HX,hJ3,hB2.trans (hb3.mono (Nat.le_trans hn₀ hB2.size))⟩
    case measure => simp [intOf];omega
   ·gi_wp2
    refine bodyPost_ret (results_none rfl _ _ _) rfl ?_
    exact ⟨⟨_,rfl⟩,.inr ⟨_,trivial,hJ2⟩⟩
  ·have hki:¬ (k:Int) < (ts.length:Int):=by omega
   have e:starts (kds ts) i = pre:=by rw [hx,starts_out (by omega),List.append_nil]
   have HE:Hid (_ = _):=e
   clear hx e
   gi_wp2
   go_end0
   refine ⟨⟨_,rfl⟩,.inl ?_⟩
   first
    | exact ⟨pre,(show _ = _ from HE).symm,hJs⟩
    | (rw [show starts (kds ts) i = pre from HE];exact hJs)
theorem things_in (n:Nat) (v:Value) (i:Int) (w:World) (hv:v.oneCell' = true) :
  CallsIn Fence.wide n Tryz.prog 160 #[v,.int .i64 i] w fun e w' => e = .returned (.func (.func 205) #[] #[.pointer (some ⟨w.heap.size + 1,0,none⟩),.pointer (some ⟨w.heap.size,0,none⟩)]) ∧ w' = (w.alloc (.cells #[v] 70)).alloc (.cells #[.int .i64 i] 3):=by
 refine callsIn_of_wp Tryz.func160 rfl trivial ?_ rfl
 simp only [Tryz.ntmps160,List.size_toArray,List.length_cons,List.length_nil,Nat.reduceAdd,Nat.reduceSub,Array.replicate_succ,Array.replicate_zero,List.push_toArray,List.append_toArray,List.nil_append,List.cons_append]
 gi_wp2
 go_ret
 exact ⟨rfl,rfl⟩
theorem things_seq (n Bi Bv n₀:Nat) (v:Value) (ts:List Bt) (i:Nat) (w:World) (hBi:Bi < n₀) (hBv:Bv < n₀) (hn₀:n₀ ≤ w.heap.size)
  (hci:w.cell? ⟨Bi,0,none⟩ = some (.int .i64 i)) (hcv:w.cell? ⟨Bv,0,none⟩ = some v) (hv:BtsAt n₀ w v ts) (hi:i ≤ ts.length) (hl:ts.length ≤ 1000000) :
  SeqZ Fence.wide n Tryz.prog 205 #[.pointer (some ⟨Bi,0,none⟩),.pointer (some ⟨Bv,0,none⟩)] (fun x:Nat => #[.int .i64 x]) n₀ (fun xs => xs = starts (kds ts) i) (fun _ => True) (fun pre x => ∃ rest,pre ++ x :: rest = starts (kds ts) i) 0 w:=fun l J Jx W hW hJ _ hY h0 =>
 things1_in n l Bi Bv n₀ v ts i J Jx W hBi hBv (Nat.le_trans hn₀ hW.size) hJ
  (fun pre x W1 h1 h2 h3 => (hY pre x W1 h1 h2 h3).mono (fun _ _ h => h.elim (fun h => .inl ⟨h.1,h.2.1,h.2.2.below⟩) (fun h => .inr h)))
  ((hW.cell (p:=⟨Bi,0,none⟩) (by simp;omega)).trans hci) ((hW.cell (p:=⟨Bv,0,none⟩) (by simp;omega)).trans hcv) (hv.below (hW.mono hn₀)) hi hl h0
/-! ### is a kind among those that are looked for? -/
set_option maxHeartbeats 1000000 in
theorem index_any (v:Value) (l:List Int) (x:Int) (w:World) (hv:IntsAt w.heap.size w v l) (hl:l.length ≤ 1000000) :
  Calls Tryz.prog 183 #[v,.int .i64 x] w fun e w' => (∃ r:Int,e = .returned (.int .i64 r) ∧ decide (0 ≤ r) = l.contains x) ∧ w' = w:=by
 obtain ⟨p,cap,rfl⟩:=hv.len
 obtain ⟨B,hB⟩:∃ B,l.contains x = B:=⟨_,rfl⟩
 rw [hB]
 go_enter Tryz.func183,Tryz.ntmps183
 go_wp2
 go_loopw [8] (fun y wr => ∃ k:Nat,y = .int .i64 k ∧ k ≤ l.length ∧ (l.take k).contains x = false ∧ wr = w) (fun y _ => l.length - (intOf y).toNat)
 case atStart => exact ⟨0,rfl,Nat.zero_le _,rfl,rfl⟩
 case round =>
  obtain ⟨k,rfl,hk,hn,rfl⟩:=hrel
  by_cases hlt:k < l.length
  ·have hki:(k:Int) < (l.length:Int):=by omega
   obtain ⟨bk,off,hp,hcell⟩:∃ bk off,p = some ⟨bk,off,none⟩ ∧ ∀ j u,l[j]? = some u → wr.cell? ⟨bk,off + j,none⟩ = some (.int .i64 u):=by
    rcases hv with ⟨rfl,_⟩ | ⟨bk,off,c,e,_,_,_,h⟩
    ·simp at hlt
    ·cases e;exact ⟨bk,off,rfl,h⟩
   subst hp
   have c0:=hcell k _ (List.getElem?_eq_getElem hlt)
   by_cases hx:x = l[k]
   ·have hin:l.contains x = true:=by rw [hx];simp
    obtain rfl:B = true:=hB.symm.trans hin
    clear hcell hv hn hB hin
    generalize l[k] = u at *
    subst hx
    go_wp2
    go_ret
    exact ⟨⟨_,rfl,by simp⟩,rfl⟩
   ·have hx':(x == l[k]) = false:=by simpa using hx
    have HN:Hid ((l.take (k + 1)).contains x = false):=by
     show _ = _
     rw [List.take_succ_eq_append_getElem hlt]
     simp only [List.contains_eq_any_beq,List.any_append,List.any_cons,List.any_nil,Bool.or_false] at hn ⊢
     rw [hn,Bool.false_or]
     exact hx'
    have HB:Hid (l.contains x = B):=hB
    clear hcell hv hn hB
    generalize l[k] = u at *
    go_wp2
    exact ⟨⟨k + 1,by go_num,by omega,HN,by first | rfl | trivial⟩,by simp [intOf];omega⟩
  ·have hki:¬ (k:Int) < (l.length:Int):=by omega
   rw [List.take_of_length_le (by omega)] at hn
   obtain rfl:B = false:=hB.symm.trans hn
   clear hn hv hB
   go_wp2
   go_ret
   exact ⟨⟨-1,rfl,by decide⟩,rfl⟩
theorem contains_any (v:Value) (l:List Int) (x:Int) (w:World) (hv:IntsAt w.heap.size w v l) (hl:l.length ≤ 1000000) :
  Calls Tryz.prog 148 #[v,.int .i64 x] w fun e w' => e = .returned (.bool (l.contains x)) ∧ w' = w:=by
 have h:=index_any v l x w hv hl
 obtain ⟨p,cap,rfl⟩:=hv.len
 generalize l.contains x = B at *
 go_enter Tryz.func148,Tryz.ntmps148
 go_wp2_with fail
 refine h.mono ?_
 rintro e w' ⟨⟨r,rfl,hr⟩,rfl⟩
 subst hr
 go_wp2
 go_ret
 exact ⟨rfl,rfl⟩
end Go.Proofs.YtagbjmocjaaioaaGreatDoor.Dc

/- decl.upTo at every place of a slice of tokens that is not too long. -/
set_option maxRecDepth 100000
namespace Go.Proofs.YtagbjmocjaaioaaGreatDoor.Dc
open Go Go.RowKit Go.Shelf
attribute [local go_sem] Oper.semAt_some
theorem below_drew {n₀:Nat} {a b:World} (h:Below n₀ a b):Below n₀ a b.drew:=⟨h.os,h.tape,h.output,h.size,h.block⟩
theorem grown_drew1 {a b:World} {row:Option Nat} (h:a.grownBy b row):a.grownBy b.drew row:=⟨h.os,h.tape,h.output,h.size,h.block⟩
theorem results_cell_int {fn:Func} {p:Tmp} (h:fn.results = #[.cell p 3]) (tmps:Array Value) (W:World) (g:Nat) (v:Value) (hp:tmps.getD p undef = .pointer (some ⟨g,0,none⟩)) (hc:W.cell? ⟨g,0,none⟩ = some v):(results fn tmps).run Tryz.prog W = .ok v W:=by
 have hp':tmps[p]?.getD undef = .pointer (some ⟨g,0,none⟩):=by simpa using hp
 have hl:(loadVar 3 ⟨g,0,none⟩).run Tryz.prog W = .ok v W:=by
  simp [loadVar,isAgg,Sem.run_bind,Result.andThen,load,hc,Sem.run]
 simp [results,h,hp',asAddr,hl]
theorem egThg:∀ args w,(callFunc 205 args).run Tryz.prog w = .ok (.enter 205 args) w:=enters_of Tryz.func205 (by kernel_rfl) rfl
theorem find_none {p:Nat → Bool} {l:List Nat} (h:∀ x ∈ l,p x = false):l.find? p = none:=by
 rw [List.find?_eq_none]
 intro x hx e
 rw [h x hx] at e
 cases e
theorem find_here {p:Nat → Bool}:∀ {a:List Nat} {x:Nat} {b:List Nat},(∀ y ∈ a,p y = false) → p x = true → (a ++ x :: b).find? p = some x
 | [],x,b,_,hx => by rw [List.nil_append,List.find?_cons,hx]
 | y :: a,x,b,h,hx => by
  rw [List.cons_append,List.find?_cons,h y (List.mem_cons_self ..)]
  exact find_here (fun z hz => h z (List.mem_cons_of_mem _ hz)) hx
theorem starts_mem {ks:List Int}:∀ (n i:Nat),ks.length - i ≤ n → ∀ x ∈ starts ks i,x < ks.length
 | 0,i,hn => by
  rw [starts_out (by omega)]
  simp
 | n + 1,i,hn => by
  by_cases h:i < ks.length
  ·have hp:=run_drop_pos h
   rw [starts_in h]
   intro x hx
   rcases List.mem_cons.1 hx with rfl | hx
   ·exact h
   ·exact starts_mem n _ (by omega) x hx
  ·rw [starts_out (by omega)]
   simp
set_option maxHeartbeats 4000000 in
theorem upTo_all (n:Nat) (hn:1 ≤ n) (v kv:Value) (ts:List Bt) (l:List Int) (i:Nat) (w:World) (hv:BtsAt w.heap.size w v ts) (hk:IntsAt w.heap.size w kv l) (hi:i ≤ ts.length) (hl:ts.length ≤ 1000000) (hll:l.length ≤ 1000000) :
  CallsIn Fence.wide n Tryz.prog 118 #[v,.int .i64 i,kv] w fun e w' => e = .returned (.int .i64 ((i + upto (fun x => l.contains x) ((kds ts).drop i):Nat):Int)) ∧ Below w.heap.size w w':=by
 have hU:=upto_starts (fun x => l.contains x) (kds ts) (kds ts).length i (by omega) (by rw [kds_length];omega)
 obtain ⟨T,hT⟩:∃ T:Nat,i + upto (fun x => l.contains x) ((kds ts).drop i) = T:=⟨_,rfl⟩
 rw [hT] at hU ⊢
 clear hT
 obtain ⟨p,cap,rfl⟩:=hv.len
 obtain ⟨pk,ck,rfl⟩:=hk.len
 refine callsIn_of_wp_marks Tryz.func118 rfl trivial ?_ rfl
 simp only [Tryz.ntmps118,List.size_toArray,List.length_cons,List.length_nil,Nat.reduceAdd,Nat.reduceSub,Array.replicate_succ,Array.replicate_zero,List.push_toArray,List.append_toArray,List.nil_append,List.cons_append]
 obtain ⟨w3,hw3⟩:∃ w3,((w.alloc (.cells #[.slice p ts.length cap] 70)).alloc (.cells #[.slice pk l.length ck] 58)).alloc (.cells #[.int .i64 0] 3) = w3:=⟨_,rfl⟩
 have hs3:w3.heap.size = w.heap.size + 3:=by rw [← hw3];simp
 have hB3:Below w.heap.size w w3:=by rw [← hw3];exact (((Below.refl _ w).alloc (Nat.le_refl _) _).alloc (by simp) _).alloc (by simp;omega) _
 have bT3:Boxed w3 w.heap.size 70 (.slice p ts.length cap):=by rw [← hw3];exact ((Boxed.new _ _ _).alloc _).alloc _
 have bK3:Boxed w3 (w.heap.size + 1) 58 (.slice pk l.length ck):=by
  rw [← hw3]
  have:=(Boxed.new (w.alloc (.cells #[.slice p ts.length cap] 70)) 58 (.slice pk l.length ck)).alloc (.cells #[.int .i64 0] 3)
  rwa [World.size_alloc] at this
 have bR3:Boxed w3 (w.heap.size + 2) 3 (.int .i64 0):=by
  rw [← hw3]
  have:=Boxed.new ((w.alloc (.cells #[.slice p ts.length cap] 70)).alloc (.cells #[.slice pk l.length ck] 58)) 3 (.int .i64 0)
  rwa [World.size_alloc,World.size_alloc] at this
 have cT3:=bT3.cell
 gi_wp2_with fail
 refine ⟨trivial,?_⟩
 clear hw3 cT3
 have hth:=fun m => things_in m (.slice p ts.length cap) i w3 rfl
 rw [hs3] at hth
 refine (hth _).mono ?_
 clear hth
 rintro e w4 ⟨rfl,hw5⟩
 obtain ⟨w5,rfl⟩:∃ w5,w5 = w4:=⟨_,rfl⟩
 have hs5:w5.heap.size = w.heap.size + 5:=by rw [hw5];simp;omega
 have hB5:Below w3.heap.size w3 w5:=by rw [hw5];exact ((Below.refl _ w3).alloc (Nat.le_refl _) _).alloc (by simp) _
 have bT5:=bT3.kept (grown_of_below' hB5 none) (by simp)
 have bK5:=bK3.kept (grown_of_below' hB5 none) (by simp)
 have bR5:=bR3.kept (grown_of_below' hB5 none) (by simp)
 have bV5:Boxed w5 (w.heap.size + 3) 70 (.slice p ts.length cap):=by
  rw [hw5]
  have:=(Boxed.new w3 70 (.slice p ts.length cap)).alloc (.cells #[.int .i64 i] 3)
  rwa [hs3] at this
 have bI5:Boxed w5 (w.heap.size + 4) 3 (.int .i64 i):=by
  rw [hw5]
  have:=Boxed.new (w3.alloc (.cells #[.slice p ts.length cap] 70)) 3 (.int .i64 i)
  rwa [World.size_alloc,hs3] at this
 have hBB:Below w.heap.size w w5:=hB3.trans (hB5.mono hB3.size)
 clear hw5 hB5 bT3 bK3 bR3 hB3 hs3 w3
 have hseq:=things_seq (n - 1) (w.heap.size + 4) (w.heap.size + 3) (w.heap.size + 5) (.slice p ts.length cap) ts i w5 (by omega) (by omega) (by omega) bI5.cell bV5.cell ((hv.below hBB).mono (by omega)) hi hl
 gi_wp2_with fail
 have hmem:=starts_mem (ks:=kds ts) _ i (Nat.le_refl _)
 rw [kds_length] at hmem hU
 refine wpIn_rangeFunc_Z rfl hn (gf:=205) (lb:=#[.pointer (some ⟨w.heap.size + 4,0,none⟩),.pointer (some ⟨w.heap.size + 3,0,none⟩)]) rfl trivial egThg hseq (by omega) (Below.refl _ _) (fun _ => rfl)
  (fun pre X => (∀ x ∈ pre,l.contains (kd (kds ts) x) = false) ∧ Boxed X w.heap.size 70 (.slice p ts.length cap) ∧ Boxed X (w.heap.size + 1) 58 (.slice pk l.length ck) ∧ Boxed X (w.heap.size + 2) 3 (.int .i64 0) ∧ Below w.heap.size w X)
  (fun _ X => Boxed X (w.heap.size + 2) 3 (.int .i64 T) ∧ Below w.heap.size w X)
  ?hI ?hIx ⟨fun _ h => (by cases h),bT5,bK5,bR5,hBB⟩
  (fun x => { tmps:=#[.slice p ts.length cap,.int .i64 i,.slice pk l.length ck,.pointer (some ⟨w.heap.size,0,none⟩),undef,.pointer (some ⟨w.heap.size + 1,0,none⟩),.pointer (some ⟨w.heap.size + 2,0,none⟩),.int .i64 x,.slice p ts.length cap,.int .i64 i,.func (.func 205) #[] #[.pointer (some ⟨w.heap.size + 4,0,none⟩),.pointer (some ⟨w.heap.size + 3,0,none⟩)],.int .i64 x,undef,undef,undef,undef,undef,undef,undef,undef,undef,undef],defers:=[] }) ?assign ?body ?done ?stop
 case hI =>
  rintro s X Y row ⟨h1,h2,h3,h4,h5⟩ hg hr
  have far:∀ b,b < w.heap.size + 5 → some b ≠ row:=fun b hb e => by have:=hr b e.symm;omega
  exact ⟨h1,h2.kept hg (far _ (by omega)),h3.kept hg (far _ (by omega)),h4.kept hg (far _ (by omega)),h5.grown hg h5.size (fun r e => by have:=hr r e;omega)⟩
 case hIx =>
  rintro s X Y row ⟨h4,h5⟩ hg hr
  have far:∀ b,b < w.heap.size + 5 → some b ≠ row:=fun b hb e => by have:=hr b e.symm;omega
  exact ⟨h4.kept hg (far _ (by omega)),h5.grown hg h5.size (fun r e => by have:=hr r e;omega)⟩
 case assign =>
  intro l x X K hK
  gi_wp2
  exact hK
 case body =>
  rintro l' pre x X ⟨h1,h2,h3,h4,h5⟩ ⟨rest,hok⟩ hsz
  have hxm:x < ts.length:=hmem x (by rw [← hok];simp)
  have hxi:(x:Int) < (ts.length:Int):=by omega
  have c2:=h2.cell
  have c3:=h3.cell
  have c4:=h4.cell
  have f4:=h4.frozen
  obtain ⟨bk,off,rfl,hbk,_,_,hc,_⟩:=(hv.below h5).get (List.getElem?_eq_getElem hxm)
  have hkd:kd (kds ts) x = ts[x].kind:=by simp [kd,kds,hxm]
  have hcon:=fun W (hb:Below w.heap.size w W) => contains_any (.slice pk l.length ck) l ts[x].kind W ((hk.below hb).mono hb.size) hll
  rw [← hkd] at hcon hc
  clear hkd
  have hfo:=follows
  cases hB:l.contains (kd (kds ts) x) with
  | true =>
   have hTx:T = x:=by rw [hU,← hok,find_here (fun y hy => h1 y hy) hB];rfl
   rw [hB] at hcon
   generalize kd (kds ts) x = kx at *
   have FIN:Hid (∀ Z,(X.setCell ⟨w.heap.size + 2,0,none⟩ (.int .i64 x)).grownBy Z none → KeepsIn 0 w5.heap.size (w5.heap.size + 2 + 0) X Z ∧ Boxed Z (w.heap.size + 2) 3 (.int .i64 T) ∧ Below w.heap.size w Z):=fun Z g => by
    have g2:=grownBy_setCell' X (w.heap.size + 2) (.int .i64 x)
    have hs1:=h5.size
    have hs2:=g2.size
    have b1:=(Below.refl 0 X).grown g2 (Nat.zero_le _) (fun r e => Nat.zero_le _)
    refine ⟨⟨b1.grown g (Nat.zero_le _) (fun r e => Nat.zero_le _),fun r r1 r2 => ?_⟩,?_,?_⟩
    ·rw [g.block r (by omega) (by simp)]
     exact g2.block r (by omega) (by simp;omega)
    ·rw [hTx]
     exact (h4.set _).kept g (by simp)
    ·exact (h5.grown g2 h5.size (fun r e => by cases e;omega)).grown g (by omega) (fun r e => by cases e)
   clear hseq hU hTx hok
   gi_wp2_with fail
   gi_region_with_o (refine ⟨trivial,fun h => (by cases h),?_⟩;gi_at_call 148;refine (CallsIn.inRound l' (callsIn_wide.2 (hcon _ (by repeat (first | exact h5 | apply below_drew))))).mono ?_;rintro e w' ⟨rfl,rfl⟩)
   all_goals gi_wp2
   all_goals refine (show _ from FIN) _ ?_
   all_goals repeat (first | exact World.grownBy.refl _ _ | apply grown_drew1)
  | false =>
   rw [hB] at hcon
   have FIN:Hid (∀ Y,X.grownBy Y none → KeepsIn (w.heap.size + 5) w5.heap.size (w5.heap.size + 2 + 0) X Y ∧ (∀ y ∈ pre ++ [x],l.contains (kd (kds ts) y) = false) ∧ Boxed Y w.heap.size 70 (.slice (some ⟨bk,off,none⟩) ts.length cap) ∧ Boxed Y (w.heap.size + 1) 58 (.slice pk l.length ck) ∧ Boxed Y (w.heap.size + 2) 3 (.int .i64 0) ∧ Below w.heap.size w Y):=fun Y g => by
    refine ⟨KeepsIn.of_grownBy g (by omega) (by omega) (fun r e => by cases e),fun y hy => ?_,h2.kept g (by simp),h3.kept g (by simp),h4.kept g (by simp),h5.grown g h5.size (fun r e => by cases e)⟩
    rcases List.mem_append.1 hy with hy | hy
    ·exact h1 y hy
    ·obtain rfl:y = x:=by simpa using hy
     exact hB
   clear hB
   generalize kd (kds ts) x = kx at hc hcon
   clear hseq hU hok
   gi_wp2_with fail
   gi_region_with_o (refine ⟨trivial,fun h => (by cases h),?_⟩;gi_at_call 148;refine (CallsIn.inRound l' (callsIn_wide.2 (hcon _ (by repeat (first | exact h5 | apply below_drew))))).mono ?_;rintro e w' ⟨rfl,rfl⟩)
   all_goals gi_wp2
   all_goals refine (show _ from FIN) _ ?_
   all_goals repeat (first | exact World.grownBy.refl _ _ | apply grown_drew1)
 case done =>
  rintro ys X rfl ⟨h1,h2,h3,h4,h5⟩ hK
  have hTl:T = ts.length:=by rw [hU,find_none (fun y hy => h1 y hy)];rfl
  have c2:=h2.cell
  have c4:=h4.cell
  have f4:=h4.frozen
  have g2:=grownBy_setCell' X (w.heap.size + 2) (.int .i64 (ts.length:Int))
  have hK2:=(g2.block w5.heap.size (Array.getElem?_eq_some_iff.1 hK).1 (by simp;omega)).trans hK
  have b4:=h4.set (.int .i64 (ts.length:Int))
  have hb4:=h5.grown g2 h5.size (fun r e => by cases e;omega)
  clear hseq hU hmem
  gi_wp2
  refine ⟨by simp,.inl ⟨_,_,rfl,run_takeDeferred hK2,?_⟩⟩
  have g3:=grownBy_putObj' (X.setCell ⟨w.heap.size + 2,0,none⟩ (.int .i64 (ts.length:Int))) w5.heap.size (.deferred none)
  have b5:=b4.kept g3 (by simp;omega)
  refine ⟨_,results_cell_int rfl _ _ (w.heap.size + 2) _ rfl b5.cell,by rw [hTl],hb4.grown g3 (by have:=hb4.size;omega) (fun r e => by cases e;omega)⟩
 case stop =>
  rintro pre X _ ⟨h4,h5⟩ hK
  clear hseq hU
  gi_wp2
  refine ⟨by simp,.inl ⟨_,_,rfl,run_takeDeferred hK,?_⟩⟩
  have g3:=grownBy_putObj' X w5.heap.size (.deferred none)
  have b5:=h4.kept g3 (by simp;omega)
  exact ⟨_,results_cell_int rfl _ _ (w.heap.size + 2) _ rfl b5.cell,rfl,h5.grown g3 h5.size (fun r e => by cases e;omega)⟩
end Go.Proofs.YtagbjmocjaaioaaGreatDoor.Dc

/- Slices of declarations in memory; decl.copied. -/
set_option maxRecDepth 100000
namespace Go.Proofs.YtagbjmocjaaioaaGreatDoor.Dc
open Go Go.RowKit Go.Shelf
theorem infoTk6:(Tryz.prog.info? 108).map (fun i => (i.zero,i.size,i.bytes)) = some (some (.agg #[.int .i64 0,.string ⟨#[]⟩,.int .i64 0,.bool false,.int .i64 0]),5,48):=by kernel_rfl
theorem infoDecl:(Tryz.prog.info? 123).map (fun i => (i.zero,i.size,i.bytes)) = some (some (.agg #[.string ⟨#[]⟩,.slice none 0 0,.bool false]),3,48):=by kernel_rfl
theorem infoTkS:(Tryz.prog.info? 108).map (·.size) = some 5:=by kernel_rfl
theorem infoDeclS:(Tryz.prog.info? 123).map (·.size) = some 3:=by kernel_rfl
theorem btsCells_cell {ts:List Bt} {j:Nat} {u:Value} (h:(btsCells ts)[j]? = some u):∃ t,ts[j / 5]? = some t ∧ (btCells t)[j % 5]? = some u:=by
 have hlt:j < (btsCells ts).length:=(List.getElem?_eq_some_iff.1 h).1
 rw [btsCells_length] at hlt
 have hq:j / 5 < ts.length:=by omega
 refine ⟨ts[j / 5],List.getElem?_eq_getElem hq,?_⟩
 rw [← btsCells_at ts (j / 5) _ (List.getElem?_eq_getElem hq) (j % 5) (by omega),show j / 5 * 5 + j % 5 = j by omega]
 exact h
theorem btAt_cells {W:World} {bk o:Nat} {t:Bt} (h:BtAt W bk o t) {i:Nat} {u:Value} (hi:(btCells t)[i]? = some u):W.cell? ⟨bk,o + i,none⟩ = some u:=by
 obtain ⟨h0,h1,h2,h3,h4⟩:=h
 have:i = 0 ∨ i = 1 ∨ i = 2 ∨ i = 3 ∨ i = 4:=by
  have:=(List.getElem?_eq_some_iff.1 hi).1
  simp [btCells] at this
  omega
 rcases this with rfl | rfl | rfl | rfl | rfl <;> (simp [btCells] at hi;subst hi;assumption)
theorem btsSrc {n₀:Nat} {X:World} {v:Value} {ts:List Bt} (h:BtsAt n₀ X v ts) :
  (v = .slice none 0 0 ∧ ts.length = 0) ∨ ∃ ad c,v = .slice (some ad) ts.length c ∧ ∀ j u,(btsCells ts)[j]? = some u → X.cell? (ad.add j) = some u:=by
 rcases h with ⟨rfl,rfl | ⟨x,cap,rfl,_⟩⟩ | ⟨bk,off,cap,rfl,_,_,_,hc⟩
 ·exact .inl ⟨rfl,rfl⟩
 ·exact .inr ⟨x,cap,rfl,fun j u hj => by simp [btsCells] at hj⟩
 ·refine .inr ⟨_,cap,rfl,fun j u hj => ?_⟩
  obtain ⟨t,ht,hi⟩:=btsCells_cell hj
  have:=btAt_cells (hc _ t ht) hi
  rw [addr_add,show off + j = off + j / 5 * 5 + j % 5 by omega]
  exact this
theorem ints_new (W:World) (l:List Int) (t:TypeId) (hl:l.length ≤ 1000000):IntsAt (W.heap.size + 1) (W.alloc (.cells (l.map (Value.int .i64)).toArray t)) (.slice (some ⟨W.heap.size,0,none⟩) l.length l.length) l:=by
 refine .inr ⟨W.heap.size,0,l.length,rfl,Nat.le_refl _,by unfold maxLen;omega,by omega,fun j u hj => ?_⟩
 have:=cells_new W (l.map (Value.int .i64)) t j (.int .i64 u) (by rw [List.getElem?_map,hj];rfl)
 rwa [addr_add] at this
theorem below_next {w W W':World} (h:Below w.heap.size w W) (hb:Below W.heap.size W W'):Below w.heap.size w W':=h.trans (hb.mono h.size)
theorem form_of {X:World} {b:Nat} {e:TypeId} {size:Nat} {v:Value} {m:Nat} {xs:List Value} (h:X.ownsRow b e size v m xs):∃ q c,v = .slice q m c:=by
 rcases h.2 with ⟨rfl,h0⟩ | ⟨g,cap,cur,rfl,_⟩
 ·exact ⟨none,0,by rw [h0]⟩
 ·exact ⟨_,_,rfl⟩
theorem upto_le' (p:Int → Bool) (ts:List Bt):upto p (kds ts) ≤ ts.length:=by
 have:=upto_le p _ (kds ts) (Nat.le_refl _)
 rwa [kds_length] at this
set_option maxHeartbeats 1000000 in
theorem copied_any (v:Value) (ts:List Bt) (w:World) (hv:BtsAt w.heap.size w v ts) (hl:ts.length ≤ 1000000) :
  Calls Tryz.prog 164 #[v] w fun e w' => ∃ v',e = .returned v' ∧ w'.ownsRow w.heap.size 108 5 v' ts.length (btsCells ts) ∧ Below w.heap.size w w':=by
 obtain ⟨i0,hi,hz0,hz1,hz2⟩:=info_parts infoTk6
 have hsrc:=btsSrc hv
 go_enter Tryz.func164,Tryz.ntmps164
 go_wp2_with (at_builtin;refine wpList_append_src _ rfl _ _ 70 rfl w.heap.size 108 i0 (.agg #[.int .i64 0,.string ⟨#[]⟩,.int .i64 0,.bool false,.int .i64 0]) 5 48 Tryz.underlying70 hi hz0 hz1 hz2 rfl (by decide) _ 0 [] rfl (World.ownsRow_nil _ _ _ _) _ ts.length (btsCells ts) rfl (btsCells_length ts) hsrc (btsCells_one ts) (by unfold maxLen;omega) (by omega) (Nat.le_refl _) ?_;intro v' w' hown' hgrow')
 go_ret
 refine ⟨_,rfl,by simpa using hown',(Below.refl _ w).grown hgrow' (Nat.le_refl _) (fun r e => by cases e)⟩
/-! ### a declaration, or a token, in a block of its own -/
def Blk (W:World) (B:Nat) (t:TypeId) (cs:List Value):Prop:=W.heap[B]? = some (.cells cs.toArray t (0,0))
theorem Blk.lt {W:World} {B:Nat} {t:TypeId} {cs:List Value} (h:Blk W B t cs):B < W.heap.size:=(Array.getElem?_eq_some_iff.1 h).1
theorem Blk.below {W W':World} {n:Nat} {B:Nat} {t:TypeId} {cs:List Value} (h:Blk W B t cs) (hb:Below n W W') (hn:B < n):Blk W' B t cs:=(hb.block B hn).trans h
theorem Blk.new (w:World) (t:TypeId) (cs:List Value):Blk (w.alloc (.cells cs.toArray t)) w.heap.size t cs:=heap_alloc_new w _
theorem blk3 {W:World} {B:Nat} {t:TypeId} {a b c:Value} (h:Blk W B t [a,b,c]):(W.cell? ⟨B,0,none⟩ = some a ∧ W.cell? ⟨B,1,none⟩ = some b ∧ W.cell? ⟨B,2,none⟩ = some c) ∧ W.frozen? ⟨B,0,none⟩ = false ∧ W.frozen? ⟨B,1,none⟩ = false ∧ W.frozen? ⟨B,2,none⟩ = false:=by
 simp [World.cell?,World.frozen?,show W.heap[B]? = _ from h]
def set3 (W:World) (B:Nat) (a b c:Value):World:=((W.setCell ⟨B,0,none⟩ a).setCell ⟨B,1,none⟩ b).setCell ⟨B,2,none⟩ c
theorem blk_set3 {W:World} {B:Nat} {t:TypeId} {a b c:Value} (h:Blk W B t [a,b,c]) (a' b' c':Value):Blk (set3 W B a' b' c') B t [a',b',c']:=by
 unfold Blk at h ⊢
 simp [set3,World.setCell,Array.getElem?_modify,h]
theorem blk5 {W:World} {B:Nat} {t:TypeId} {a b c d e:Value} (h:Blk W B t [a,b,c,d,e]):(W.cell? ⟨B,0,none⟩ = some a ∧ W.cell? ⟨B,1,none⟩ = some b ∧ W.cell? ⟨B,2,none⟩ = some c ∧ W.cell? ⟨B,3,none⟩ = some d ∧ W.cell? ⟨B,4,none⟩ = some e) ∧ W.frozen? ⟨B,0,none⟩ = false ∧ W.frozen? ⟨B,1,none⟩ = false ∧ W.frozen? ⟨B,2,none⟩ = false ∧ W.frozen? ⟨B,3,none⟩ = false ∧ W.frozen? ⟨B,4,none⟩ = false:=by
 simp [World.cell?,World.frozen?,show W.heap[B]? = _ from h]
def set5 (W:World) (B:Nat) (a b c d e:Value):World:=((((W.setCell ⟨B,0,none⟩ a).setCell ⟨B,1,none⟩ b).setCell ⟨B,2,none⟩ c).setCell ⟨B,3,none⟩ d).setCell ⟨B,4,none⟩ e
theorem blk_set5 {W:World} {B:Nat} {t:TypeId} {a b c d e:Value} (h:Blk W B t [a,b,c,d,e]) (a' b' c' d' e':Value):Blk (set5 W B a' b' c' d' e') B t [a',b',c',d',e']:=by
 unfold Blk at h ⊢
 simp [set5,World.setCell,Array.getElem?_modify,h]
theorem grown_set (W:World) (b i:Nat) (v:Value):W.grownBy (W.setCell ⟨b,i,none⟩ v) (some b):=
 ⟨rfl,rfl,rfl,by simp [World.setCell],fun i _ hne => Below.heap_setCell _ _ _ _ (fun e => hne (by rw [e]))⟩
theorem grown_set3 (W:World) (B:Nat) (a b c:Value):W.grownBy (set3 W B a b c) (some B):=((grown_set _ _ _ _).trans (grown_set _ _ _ _)).trans (grown_set _ _ _ _)
theorem grown_set5 (W:World) (B:Nat) (a b c d e:Value):W.grownBy (set5 W B a b c d e) (some B):=
 ((((grown_set _ _ _ _).trans (grown_set _ _ _ _)).trans (grown_set _ _ _ _)).trans (grown_set _ _ _ _)).trans (grown_set _ _ _ _)
theorem below_grew {n:Nat} {w X Y:World} {B:Nat} (h:Below n w X) (hg:X.grownBy Y (some B)) (hn:n ≤ X.heap.size) (hB:n ≤ B):Below n w Y:=h.grown hg hn (fun r e => by cases e;exact hB)
theorem load_decl {w:World} {g:Nat} {a b c:Value} (h:Blk w g 123 [a,b,c]):(loadVar 123 ⟨g,0,none⟩).run Tryz.prog w = .ok (.agg #[a,b,c]) w:=
 run_loadVar_row w g _ 123 #[a,b,c] (0,0) _ h Tryz.underlying123 rfl infoDeclS
theorem load_tok {w:World} {g:Nat} {a b c d e:Value} (h:Blk w g 108 [a,b,c,d,e]):(loadVar 108 ⟨g,0,none⟩).run Tryz.prog w = .ok (.agg #[a,b,c,d,e]) w:=
 run_loadVar_row w g _ 108 #[a,b,c,d,e] (0,0) _ h Tryz.underlying108 rfl infoTkS
theorem results_struct_tmp {fn:Func} {p q:Tmp} {ty:TypeId} (h:fn.results = #[.cell p ty,.tmp q]) (tmps:Array Value) (w:World) (g:Nat) (x:Value)
  (hp:tmps.getD p undef = .pointer (some ⟨g,0,none⟩)) (hl:(loadVar ty ⟨g,0,none⟩).run Tryz.prog w = .ok x w) :
  (results fn tmps).run Tryz.prog w = .ok (.tuple #[x,tmps.getD q undef]) w:=by
 have hp':tmps[p]?.getD undef = .pointer (some ⟨g,0,none⟩):=by simpa using hp
 simp [results,h,hp',asAddr,hl]
theorem results_tmp_struct {fn:Func} {p q:Tmp} {ty:TypeId} (h:fn.results = #[.tmp q,.cell p ty]) (tmps:Array Value) (w:World) (g:Nat) (x:Value)
  (hp:tmps.getD p undef = .pointer (some ⟨g,0,none⟩)) (hl:(loadVar ty ⟨g,0,none⟩).run Tryz.prog w = .ok x w) :
  (results fn tmps).run Tryz.prog w = .ok (.tuple #[tmps.getD q undef,x]) w:=by
 have hp':tmps[p]?.getD undef = .pointer (some ⟨g,0,none⟩):=by simpa using hp
 simp [results,h,hp',asAddr,hl]
/-! ### declarations -/
def dcCells (q:Dc × Value):List Value:=[.string q.1.name,q.2,.bool q.1.imp]
structure DcsAt (b:Nat) (W:World) (v:Value) (qs:List (Dc × Value)):Prop where
 row:W.ownsRow b 123 3 v qs.length (qs.flatMap dcCells)
 each:∀ q ∈ qs,W.ownsRow b 108 5 q.2 q.1.value.length (btsCells q.1.value)
theorem DcsAt.nil (b:Nat) (W:World):DcsAt b W (.slice none 0 0) []:=⟨World.ownsRow_nil _ _ _ _,fun _ h => by cases h⟩
theorem rows_apart {W:World} {b b':Nat} {e e':TypeId} (hne:e ≠ e') {s s':Nat} {v v':Value} {n n':Nat} {xs xs':List Value} (h:W.ownsRow b e s v n xs) (h':W.ownsRow b' e' s' v' n' xs'):v.ownBlock = none ∨ v.ownBlock ≠ v'.ownBlock:=by
 rcases h.2 with ⟨rfl,_⟩ | ⟨g,cap,cur,rfl,_,hb,_⟩
 ·exact .inl rfl
 ·right
  rcases h'.2 with ⟨rfl,_⟩ | ⟨g',cap',cur',rfl,_,hb',_⟩
  ·simp [Value.ownBlock]
  ·intro e2
   simp [Value.ownBlock] at e2
   subst e2
   rw [hb] at hb'
   injection hb' with hb'
   injection hb' with _ h2
   exact hne h2
theorem no_block (x:Value):x.ownBlock = none ∨ x.ownBlock ≠ none:=by
 cases x.ownBlock with
 | none => exact .inl rfl
 | some j => exact .inr (by simp)
theorem DcsAt.kept {b:Nat} {W W':World} {v:Value} {qs:List (Dc × Value)} (h:DcsAt b W v qs) (g:W.grownBy W' none):DcsAt b W' v qs:=
 ⟨h.row.kept g (no_block _),fun q hq => (h.each q hq).kept g (no_block _)⟩
theorem DcsAt.push {b:Nat} {W W':World} {v v':Value} {qs:List (Dc × Value)} {o:Obj} {q:Dc × Value} (h:DcsAt b W v qs)
  (h1:W.ownsRow b 108 5 q.2 q.1.value.length (btsCells q.1.value))
  (hg:(W.alloc o).grownBy W' v.ownBlock) (hr:W'.ownsRow b 123 3 v' (qs.length + 1) (qs.flatMap dcCells ++ dcCells q)):DcsAt b W' v' (qs ++ [q]):=by
 have keep:∀ {x:Value} {n:Nat} {xs:List Value},W.ownsRow b 108 5 x n xs → W'.ownsRow b 108 5 x n xs:=fun hx =>
  (hx.alloc o).kept hg (rows_apart (e:=108) (e':=123) (by decide) (hx.alloc o) (h.row.alloc o))
 refine ⟨?_,fun p hp => ?_⟩
 ·rw [List.length_append,List.flatMap_append]
  simpa using hr
 ·rcases List.mem_append.1 hp with hp | hp
  ·exact keep (h.each p hp)
  ·obtain rfl:p = q:=by simpa using hp
   exact keep h1
end Go.Proofs.YtagbjmocjaaioaaGreatDoor.Dc

/- decl.partLast and decl.withoutMark, at every slice of tokens. -/
set_option maxRecDepth 100000
namespace Go.Proofs.YtagbjmocjaaioaaGreatDoor.Dc
open Go Go.RowKit Go.Shelf
set_option maxHeartbeats 2000000 in
theorem partLast_any (v:Value) (l:List Bt) (w:World) (n₀:Nat) (hn:n₀ ≤ w.heap.size) (hv:BtsAt n₀ w v l) :
  Calls Tryz.prog 206 #[v] w fun e w' => ((endW l = [] ∧ e = .returned (.tuple #[.slice none 0 0,.agg #[.int .i64 0,.string ⟨#[]⟩,.int .i64 0,.bool false,.int .i64 0]])) ∨ (∃ a t v',endW l = a ++ [t] ∧ e = .returned (.tuple #[v',.agg #[.int .i64 t.kind,.string t.text,.int .i64 t.n,.bool t.whole,.int .i64 t.c]]) ∧ BtsAt n₀ w' v' a)) ∧ Below w.heap.size w w':=by
 have t0:=Blk.new w 108 [.int .i64 0,.string ⟨#[]⟩,.int .i64 0,.bool false,.int .i64 0]
 have b0:Below w.heap.size w (w.alloc (.cells #[.int .i64 0,.string ⟨#[]⟩,.int .i64 0,.bool false,.int .i64 0] 108)):=(Below.refl _ w).alloc (Nat.le_refl _) _
 have h1:=beforeWhite_any v l _ _ (hv.below (b0.mono hn))
 generalize endW l = A at *
 go_enter Tryz.func206,Tryz.ntmps206
 go_wp2_with fail
 refine h1.mono ?_
 clear h1
 rintro e w1 ⟨v1,rfl,hv1,rfl⟩
 replace t0:Blk (w.alloc (.cells #[.int .i64 0,.string ⟨#[]⟩,.int .i64 0,.bool false,.int .i64 0] 108)) w.heap.size _ _:=t0
 generalize w.alloc (.cells #[.int .i64 0,.string ⟨#[]⟩,.int .i64 0,.bool false,.int .i64 0] 108) = W at *
 obtain ⟨⟨c0,c1,c2,c3,c4⟩,f0,f1,f2,f3,f4⟩:=blk5 t0
 have hB:=t0.lt
 by_cases hA:A = []
 ·subst hA
  obtain ⟨p,cap,rfl⟩:=hv1.empty
  go_wp2
  refine bodyPost_ret (results_tmp_struct rfl _ _ _ _ rfl (load_tok (blk_set5 t0 _ _ _ _ _))) rfl ?_
  exact ⟨by first | exact .inl ⟨rfl,rfl⟩ | rfl,below_grew b0 (grown_set5 _ _ _ _ _ _ _) (by omega) (Nat.le_refl _)⟩
 ·obtain ⟨r,t,rfl⟩:=split_last hA
  obtain ⟨bk,off,cap,rfl,h1,h2,hb,⟨x0,x1,x2,x3,x4⟩,hr⟩:=hv1.last
  unfold maxLen at h2
  have hpos:¬ (r.length:Int) + 1 = 0:=by omega
  have hsub:IntKind.i64.wrap ((r.length:Int) + 1 - 1) = (r.length:Int):=by rw [IntKind.wrap_i64];omega
  have hsub2:IntKind.i64.wrap (r.length:Int) = (r.length:Int):=by rw [IntKind.wrap_i64];omega
  have hlt3:(r.length:Int) < (r.length:Int) + 1:=by omega
  have hr1:(r.length:Int) ≤ (cap:Int):=by omega
  have hr2:¬ cap = 0:=by omega
  clear hA
  go_wp2
  go_region_law (fail)
  go_wp2
  refine bodyPost_ret (results_tmp_struct rfl _ _ w.heap.size _ rfl (load_tok (show Blk (set5 W w.heap.size (.int .i64 t.kind) (.string t.text) (.int .i64 t.n) (.bool t.whole) (.int .i64 t.c)).drew w.heap.size _ _ from blk_set5 t0 _ _ _ _ _))) rfl ?_
  have b5:=below_grew b0 (grown_set5 W w.heap.size (.int .i64 t.kind) (.string t.text) (.int .i64 t.n) (.bool t.whole) (.int .i64 t.c)) (by omega) (Nat.le_refl _)
  have b6:Below w.heap.size w (set5 W w.heap.size (.int .i64 t.kind) (.string t.text) (.int .i64 t.n) (.bool t.whole) (.int .i64 t.c)).drew:=below_drew b5
  have b7:Below w.heap.size W (set5 W w.heap.size (.int .i64 t.kind) (.string t.text) (.int .i64 t.n) (.bool t.whole) (.int .i64 t.c)).drew:=below_drew (below_grew (Below.refl _ _) (grown_set5 _ _ _ _ _ _ _) (by omega) (Nat.le_refl _))
  exact ⟨.inr ⟨r,t,_,rfl,rfl,hr.below (b7.mono hn)⟩,b6⟩
theorem str_ne {z:ByteArray} (h:z ≠ importantT):(z.toList == [105,109,112,111,114,116,97,110,116]) = false:=by
 rw [ByteArray.toList_eq,beq_eq_false_iff_ne]
 intro e
 exact h (ByteArray.ext (Array.toList_inj.1 e))
theorem lower_any (s:ByteArray) (w:World) (hs:s.size ≤ maxLen):Calls Tryz.prog 139 #[.string s] w fun e w' => e = .returned (.string (lowT s)) ∧ Below w.heap.size w w':=Lw.lower_any s w hs
set_option maxHeartbeats 2000000 in
theorem withoutMark_any (v:Value) (l:List Bt) (w:World) (hv:BtsAt w.heap.size w v l) (ht:∀ t ∈ l,t.text.size ≤ maxLen) :
  Calls Tryz.prog 162 #[v] w fun e w' => ∃ v',e = .returned (.tuple #[v',.bool (unmark l).2]) ∧ BtsAt w.heap.size w' v' (unmark l).1 ∧ Below w.heap.size w w':=by
 have h1:=partLast_any v l w _ (Nat.le_refl _) hv
 obtain ⟨U,hU⟩:∃ U,unmark l = U:=⟨_,rfl⟩
 rw [hU]
 go_enter Tryz.func162,Tryz.ntmps162
 go_wp2_with fail
 refine h1.mono ?_
 clear h1
 rintro e w1 ⟨⟨hA,rfl⟩ | ⟨a,t,v1,hA,rfl,hva⟩,b1⟩
 ·obtain rfl:(l,false) = U:=by rw [← hU];simp [unmark,lastT_nil hA]
  have bX:Below w1.heap.size w1 (w1.alloc (.cells #[.int .i64 0,.string ⟨#[]⟩,.int .i64 0,.bool false,.int .i64 0] 108)):=(Below.refl _ w1).alloc (Nat.le_refl _) _
  have bwX:=below_next b1 bX
  have hvX:=hv.below bwX
  clear hU hA bX b1
  go_wp2
  go_ret2
  exact ⟨_,rfl,hvX,bwX⟩
 ·have hta:t ∈ l:=endW_mem (by rw [hA];simp)
  have hsz:=ht t hta
  have hau:∀ u ∈ a,u ∈ l:=fun u hu => endW_mem (by rw [hA];simp [hu])
  have bX:Below w1.heap.size w1 (w1.alloc (.cells #[.int .i64 t.kind,.string t.text,.int .i64 t.n,.bool t.whole,.int .i64 t.c] 108)):=(Below.refl _ w1).alloc (Nat.le_refl _) _
  have hkX:=Blk.new w1 108 [.int .i64 t.kind,.string t.text,.int .i64 t.n,.bool t.whole,.int .i64 t.c]
  have bwX:=below_next b1 bX
  have hvX:=hv.below bwX
  have hsX:(w1.alloc (.cells #[.int .i64 t.kind,.string t.text,.int .i64 t.n,.bool t.whole,.int .i64 t.c] 108)).heap.size = w1.heap.size + 1:=World.size_alloc _ _
  have hvaX:=hva.below (bX.mono b1.size)
  have hs1:=b1.size
  by_cases hk:t.kind = 1
  ·have hlow:=fun W => lower_any t.text W hsz
   rw [hk] at bX hkX bwX hvX hsX hvaX
   by_cases hw:lowT t.text = importantT
   ·have hM:isMarkWord t = true:=by simp [isMarkWord,hk,hw]
    rw [hw] at hlow
    rw [hk]
    go_wp2_with fail
    refine (hlow _).mono ?_
    clear hlow
    rintro e w2 ⟨rfl,b2⟩
    have b02:=below_next bwX b2
    have hva2:=hvaX.below (b2.mono (by omega))
    have h2:=partLast_any v1 a w2 _ b02.size hva2
    clear bX bwX hvX hvaX hkX hsX hva
    unfold importantT
    go_wp2_with fail
    refine h2.mono ?_
    clear h2
    rintro e w3 ⟨⟨hA2,rfl⟩ | ⟨a2,t2,v2,hA2,rfl,hva3⟩,b3⟩
    ·obtain rfl:(l,false) = U:=by rw [← hU];simp [unmark,lastT_some hA,lastT_nil hA2]
     have bY:Below w3.heap.size w3 (w3.alloc (.cells #[.int .i64 0,.string ⟨#[]⟩,.int .i64 0,.bool false,.int .i64 0] 108)):=(Below.refl _ w3).alloc (Nat.le_refl _) _
     have bwY:=below_next (below_next b02 b3) bY
     have hvY:=hv.below bwY
     clear hU hA hA2 bY b3 hva2 hM
     go_wp2
     go_ret2
     exact ⟨_,rfl,hvY,bwY⟩
    ·have bY:Below w3.heap.size w3 (w3.alloc (.cells #[.int .i64 t2.kind,.string t2.text,.int .i64 t2.n,.bool t2.whole,.int .i64 t2.c] 108)):=(Below.refl _ w3).alloc (Nat.le_refl _) _
     have bw3:=below_next b02 b3
     have bwY:=below_next bw3 bY
     have hvY:=hv.below bwY
     have hvaY:=hva3.below (bY.mono bw3.size)
     by_cases h10:t2.kind = 10
     ·rw [h10] at bY bwY hvY hvaY
      rw [h10]
      by_cases h33:t2.c = 33
      ·obtain rfl:(endW a2,true) = U:=by rw [← hU];simp [unmark,lastT_some hA,lastT_some hA2,hM,isMarkSign,h10,h33]
       rw [h33] at bY bwY hvY hvaY
       rw [h33]
       have h4:=fun W (h:BtsAt w.heap.size W v2 a2) => beforeWhite_any v2 a2 W w.heap.size h
       clear hU hA hA2 hM h10 h33
       go_wp2_with fail
       refine (h4 _ hvaY).mono ?_
       rintro e w4 ⟨v4,rfl,hv4,rfl⟩
       go_wp2
       go_ret2
       exact ⟨_,rfl,hv4,bwY⟩
      ·obtain rfl:(l,false) = U:=by rw [← hU];simp [unmark,lastT_some hA,lastT_some hA2,hM,isMarkSign,h10,h33]
       have h33':(t2.c != 33) = true:=by simpa using h33
       clear hU hA hA2 hM h10
       go_wp2
       go_ret2
       exact ⟨_,rfl,hvY,bwY⟩
     ·obtain rfl:(l,false) = U:=by rw [← hU];simp [unmark,lastT_some hA,lastT_some hA2,hM,isMarkSign,h10]
      have h10':(t2.kind != 10) = true:=by simpa using h10
      clear hU hA hA2 hM
      go_wp2
      go_ret2
      exact ⟨_,rfl,hvY,bwY⟩
   ·have hM:isMarkWord t = false:=by simp [isMarkWord,hw]
    obtain rfl:(l,false) = U:=by rw [← hU];simp [unmark,lastT_some hA,hM]
    have hw':((lowT t.text).toList == [105,109,112,111,114,116,97,110,116]) = false:=str_ne hw
    rw [hk]
    generalize lowT t.text = z at *
    go_wp2_with fail
    refine (hlow _).mono ?_
    clear hlow
    rintro e w2 ⟨rfl,b2⟩
    have b02:=below_next bwX b2
    have hv2:=hv.below b02
    clear bX bwX hvX hvaX hkX hsX hva hU hA hw
    go_wp2
    go_ret2
    exact ⟨_,rfl,hv2,b02⟩
  ·have hM:isMarkWord t = false:=by simp [isMarkWord,hk]
   obtain rfl:(l,false) = U:=by rw [← hU];simp [unmark,lastT_some hA,hM]
   have hk':(t.kind != 1) = true:=by simpa using hk
   clear hU hA hM hk
   go_wp2
   go_ret2
   exact ⟨_,rfl,hvX,bwX⟩
end Go.Proofs.YtagbjmocjaaioaaGreatDoor.Dc

/- decl.declaration, at every slice of tokens. -/
set_option maxRecDepth 100000
namespace Go.Proofs.YtagbjmocjaaioaaGreatDoor.Dc
open Go Go.RowKit Go.Shelf
def OneDecl (n:Nat) (l:List Bt) (e:Ending) (w':World):Prop:=
 (declOf l = none ∧ e = .returned (.tuple #[.agg #[.string ⟨#[]⟩,.slice none 0 0,.bool false],.bool false])) ∨ ∃ d x,declOf l = some d ∧ e = .returned (.tuple #[.agg #[.string d.name,x,.bool d.imp],.bool true]) ∧ w'.ownsRow n 108 5 x d.value.length (btsCells d.value)
theorem unmark_len (l:List Bt):(unmark l).1.length ≤ l.length:=by
 unfold unmark
 split
 ·exact Nat.le_refl _
 ·rename_i a w ha
  split
  ·split
   ·exact Nat.le_refl _
   ·rename_i b s hb
    split
    ·unfold lastT at ha hb
     simp only [Option.map_eq_some_iff,Prod.mk.injEq] at ha hb
     obtain ⟨_,_,rfl,_⟩:=ha
     obtain ⟨_,_,rfl,_⟩:=hb
     have h1:=endW_len l
     have h2:=endW_len (endW l).dropLast
     have h3:=endW_len (endW (endW l).dropLast).dropLast
     simp only [List.length_dropLast] at *
     omega
    ·exact Nat.le_refl _
  ·exact Nat.le_refl _
set_option maxHeartbeats 4000000 in
theorem declaration_any (v:Value) (l:List Bt) (w:World) (hv:BtsAt w.heap.size w v l) (ht:∀ t ∈ l,t.text.size ≤ maxLen) (hl:l.length ≤ 1000000) (h0:l ≠ []) :
  Calls Tryz.prog 119 #[v] w fun e w' => OneDecl w.heap.size l e w' ∧ Below w.heap.size w w':=by
 cases l with
 | nil => exact absurd rfl h0
 | cons t r =>
 obtain ⟨bk,off,cap,rfl,h1,h2,hb,hc,hr⟩:=hv.first
 obtain ⟨x0,x1,_⟩:=hc
 unfold maxLen at h2
 have hz:¬ (r.length:Int) + 1 = 0:=by omega
 have hr1:(1:Int) ≤ (r.length:Int) + 1:=by omega
 have hr2:((r.length + 1:Nat):Int) ≤ (cap:Int):=by omega
 have hcp:(1:Int) ≤ (cap:Int):=by omega
 have b0:Below w.heap.size w (w.alloc (.cells #[.string ⟨#[]⟩,.slice none 0 0,.bool false] 123)):=(Below.refl _ w).alloc (Nat.le_refl _) _
 have k0:=Blk.new w 123 [.string ⟨#[]⟩,.slice none 0 0,.bool false]
 have hs0:(w.alloc (.cells #[.string ⟨#[]⟩,.slice none 0 0,.bool false] 123)).heap.size = w.heap.size + 1:=World.size_alloc _ _
 have hr0:=hr.below b0
 replace x0:=(b0.cell (p:=⟨bk,off,none⟩) hb).trans x0
 replace x1:=(b0.cell (p:=⟨bk,off + 1,none⟩) hb).trans x1
 go_enter Tryz.func119,Tryz.ntmps119
 go_upto_region 1 with fail
 obtain ⟨⟨c0,c1,c2⟩,f0,f1,f2⟩:=blk3 k0
 replace k0:Blk (w.alloc (.cells #[.string ⟨#[]⟩,.slice none 0 0,.bool false] 123)) w.heap.size _ _:=k0
 generalize w.alloc (.cells #[.string ⟨#[]⟩,.slice none 0 0,.bool false] 123) = W at *
 have bz:=below_grew b0 (grown_set3 W w.heap.size (.string ⟨#[]⟩) (.slice none 0 0) (.bool false)) (by omega) (Nat.le_refl _)
 by_cases hk:t.kind = 1
 ·rw [hk] at x0
  obtain ⟨pp,hpp⟩:∃ pp:Option Addr,(if cap = 1 then some (⟨bk,off,none⟩:Addr) else some ⟨bk,off + 5,none⟩) = pp:=⟨_,rfl⟩
  rw [hpp] at hr0
  have h3:=afterWhite_any _ r W _ hr0
  obtain ⟨R,hR⟩:∃ R,dropW r = R:=⟨_,rfl⟩
  rw [hR] at h3
  go_wp2_with fail
  refine h3.mono ?_
  clear h3
  rintro e w1 ⟨v1,rfl,hv1,rfl⟩
  cases R with
  | nil =>
   obtain ⟨p1,cap1,rfl⟩:=hv1.empty
   have hd:declOf (t :: r) = none:=by simp [declOf,hk,hR]
   clear hv1 hR hpp hr0 hr hv
   go_wp2
   refine bodyPost_ret (results_struct_tmp rfl _ _ w.heap.size _ rfl (load_decl (blk_set3 k0 _ _ _))) rfl ?_
   exact ⟨.inl ⟨hd,rfl⟩,bz⟩
  | cons c vv =>
   obtain ⟨bk1,off1,cap1,rfl,g1,g2,gb,⟨y0,_⟩,hvv⟩:=hv1.first
   unfold maxLen at g2
   have hz1:¬ (vv.length:Int) + 1 = 0:=by omega
   have hq1:(1:Int) ≤ (vv.length:Int) + 1:=by omega
   have hq2:((vv.length + 1:Nat):Int) ≤ (cap1:Int):=by omega
   have hq3:(1:Int) ≤ (cap1:Int):=by omega
   by_cases h11:c.kind = 11
   ·have hd:declOf (t :: r) = some ⟨lowT t.text,(unmark (endW (dropW vv))).1,(unmark (endW (dropW vv))).2⟩:=by simp [declOf,hk,hR,h11]
    rw [h11] at y0
    obtain ⟨pq,hpq⟩:∃ pq:Option Addr,(if cap1 = 1 then some (⟨bk1,off1,none⟩:Addr) else some ⟨bk1,off1 + 5,none⟩) = pq:=⟨_,rfl⟩
    rw [hpq] at hvv
    have h4:=afterWhite_any _ vv w1 _ hvv
    have hsub:∀ u ∈ vv,u ∈ t :: r:=fun u hu => List.mem_cons_of_mem _ (dropW_mem (by rw [hR];exact List.mem_cons_of_mem _ hu))
    have hvl:vv.length ≤ 1000000:=by
     have:=dropW_len r
     rw [hR] at this
     simp only [List.length_cons] at this hl
     omega
    have hM1:∀ u ∈ endW (dropW vv),u.text.size ≤ maxLen:=fun u hu => ht u (hsub u (dropW_mem (endW_mem hu)))
    have hM2:(unmark (endW (dropW vv))).1.length ≤ 1000000:=Nat.le_trans (unmark_len _) (Nat.le_trans (endW_len _) (Nat.le_trans (dropW_len _) hvl))
    have hlow:=fun X => lower_any t.text X (ht t (List.mem_cons_self ..))
    generalize dropW vv = V1 at *
    obtain ⟨V2,hV2⟩:∃ V2,endW V1 = V2:=⟨_,rfl⟩
    rw [hV2] at hd hM1 hM2
    obtain ⟨U1,U2,hU⟩:∃ U1 U2,unmark V2 = (U1,U2):=⟨_,_,rfl⟩
    rw [hU] at hd hM2
    obtain ⟨LT,hLT⟩:∃ LT,lowT t.text = LT:=⟨_,rfl⟩
    rw [hLT] at hd hlow
    have hs1:=b0.size
    clear hv1 hR hpp hr0 hr hv
    go_wp2_with fail
    refine h4.mono ?_
    clear h4
    rintro e w2 ⟨v2,rfl,hv2,rfl⟩
    have h5:=beforeWhite_any v2 V1 w2 _ hv2
    rw [hV2] at h5
    go_wp2_with fail
    refine h5.mono ?_
    clear h5
    rintro e w3 ⟨v3,rfl,hv3,rfl⟩
    have h6:=withoutMark_any v3 V2 w3 (hv3.mono hs1) hM1
    rw [hU] at h6
    clear hU hV2 hpq hM1 hvv hv2 hv3
    go_wp2_with fail
    refine h6.mono ?_
    clear h6
    rintro e w4 ⟨v4,rfl,hv4,b4⟩
    replace x1:=(b4.cell (p:=⟨bk,off + 1,none⟩) (show bk < _ by omega)).trans x1
    have hb4:=b4.size
    clear x0 y0
    go_wp2_with fail
    refine (hlow _).mono ?_
    clear hlow
    rintro e w5 ⟨rfl,b5⟩
    have hb5:=b5.size
    have h7:=copied_any v4 U1 w5 ((hv4.mono hb4).next b5) hM2
    go_wp2_with fail
    refine h7.mono ?_
    clear h7
    rintro e w6 ⟨v6,rfl,r6,b6⟩
    have b16:=below_next (below_next b4 b5) b6
    have k6:=k0.below b16 k0.lt
    clear c0 c1 c2 f0 f1 f2
    obtain ⟨⟨c0,c1,c2⟩,f0,f1,f2⟩:=blk3 k6
    have hkl:=k0.lt
    obtain ⟨q6,n6,rfl⟩:=form_of r6
    go_wp2
    refine bodyPost_ret (results_struct_tmp rfl _ _ w.heap.size _ rfl (load_decl (blk_set3 k6 _ _ _))) rfl ?_
    refine ⟨.inr ⟨_,_,hd,rfl,(owns_base r6 (by omega)).kept (grown_set3 _ _ _ _ _) ?_⟩,below_grew (below_next b0 b16) (grown_set3 _ _ _ _ _) (by have:=b16.size;omega) (Nat.le_refl _)⟩
    cases hv6:(Value.slice q6 U1.length n6).ownBlock with
    | none => exact .inl rfl
    | some j =>
     have:=(World.ownsRow.lt r6 j hv6).1
     exact .inr (by simp;omega)
   ·have hd:declOf (t :: r) = none:=by simp [declOf,hk,hR,h11]
    have h11':(c.kind != 11) = true:=by simpa using h11
    clear hv1 hR hpp hr0 hr hv hvv
    generalize c.kind = ck at *
    go_wp2
    refine bodyPost_ret (results_struct_tmp rfl _ _ w.heap.size _ rfl (load_decl (blk_set3 k0 _ _ _))) rfl ?_
    exact ⟨.inl ⟨hd,rfl⟩,bz⟩
 ·have hd:declOf (t :: r) = none:=by simp [declOf,hk]
  have hk':(t.kind != 1) = true:=by simpa using hk
  clear hr0 hr hv
  generalize t.kind = ck at *
  go_wp2
  refine bodyPost_ret (results_struct_tmp rfl _ _ w.heap.size _ rfl (load_decl (blk_set3 k0 _ _ _))) rfl ?_
  exact ⟨.inl ⟨hd,rfl⟩,bz⟩
end Go.Proofs.YtagbjmocjaaioaaGreatDoor.Dc

/- decl.Parse at every slice of tokens that is not too long. -/
set_option maxRecDepth 100000
namespace Go.Proofs.YtagbjmocjaaioaaGreatDoor.Dc
open Go Go.RowKit Go.Shelf
theorem upto_two {r:List Int}:upto isEnd (2 :: r) = 1 + upto isEnd r:=by
 have e:run [] (2 :: r) = 1:=run_cons_nil r (by decide)
 rw [upto_cons,if_neg (by decide),e]
 rfl
theorem at_next {ts:List Bt} {k:Nat} (h:k < ts.length) (h2:ts[k].kind = 2) :
  upto isEnd ((kds ts).drop k) = 1 + upto isEnd ((kds ts).drop (k + 1)) ∧ decls (ts.drop k) = decls (ts.drop (k + 1 + upto isEnd ((kds ts).drop (k + 1)) + run [] ((kds ts).drop (k + 1 + upto isEnd ((kds ts).drop (k + 1)))))):=by
 constructor
 ·rw [kds_at h,h2,upto_two]
 ·rw [List.drop_eq_getElem_cons h,decls_at h2,List.drop_drop,kds_drop,List.drop_drop]
  simp only [Nat.add_assoc]
theorem one_next {ts:List Bt} {k:Nat} (h:k < ts.length) (h9:ts[k].kind ≠ 9) (h12:ts[k].kind ≠ 12) (h2:ts[k].kind ≠ 2) :
  0 < upto isSemi ((kds ts).drop k) ∧ k + upto isSemi ((kds ts).drop k) ≤ ts.length ∧ decls (ts.drop k) = (declOf ((ts.drop k).take (upto isSemi ((kds ts).drop k)))).toList ++ decls (ts.drop (k + upto isSemi ((kds ts).drop k))):=by
 have hl:=upto_le' isSemi (ts.drop k)
 rw [List.length_drop,kds_drop] at hl
 have hp:=upto_semi_pos (t:=ts[k]) (r:=ts.drop (k + 1)) h12
 have ho:=decls_one (t:=ts[k]) (r:=ts.drop (k + 1)) h9 h12 h2
 rw [← List.drop_eq_getElem_cons h,kds_drop] at hp ho
 rw [List.drop_drop] at ho
 exact ⟨hp,by omega,ho⟩
theorem mem_part {ts:List Bt} {k m:Nat} {t:Bt} (h:t ∈ (ts.drop k).take m):t ∈ ts:=List.mem_of_mem_drop (List.mem_of_mem_take h)
set_option maxHeartbeats 4000000 in
theorem parse_any (v:Value) (ts:List Bt) (w:World) (hv:BtsAt w.heap.size w v ts) (ht:∀ t ∈ ts,t.text.size ≤ maxLen) (hl:ts.length ≤ 100000) :
  Calls Tryz.prog 70 #[v] w fun e w' => ∃ v',e = .returned v' ∧ (∃ qs,qs.map Prod.fst = decls ts ∧ DcsAt w.heap.size w' v' qs) ∧ Below w.heap.size w w':=by
 obtain ⟨i0,hi,hz0,hz1,hz2⟩:=info_parts infoDecl
 obtain ⟨p,cap,rfl⟩:=hv.len
 obtain ⟨A,hA⟩:∃ A,decls ts = A:=⟨_,rfl⟩
 rw [hA]
 go_enter Tryz.func70,Tryz.ntmps70
 go_wp2
 go_loopw [3,4] (fun o x wr => ∃ (k:Nat) (qs:List (Dc × Value)) (v':Value),v' = o ∧ x = .int .i64 k ∧ k ≤ ts.length ∧ qs.length ≤ k ∧ DcsAt w.heap.size wr v' qs ∧ qs.map Prod.fst ++ decls (ts.drop k) = A ∧ Below w.heap.size w wr) (fun _ x _ => ts.length - (intOf x).toNat)
 case atStart => exact ⟨0,[],_,rfl,rfl,by omega,by simp,DcsAt.nil _ _,by simpa using hA,Below.refl _ _⟩
 case round =>
  clear hA
  obtain ⟨k,qs,v',rfl,rfl,hk,hql,hR,hA,hb⟩:=hrel
  by_cases hlt:k < ts.length
  ·have hki:(k:Int) < (ts.length:Int):=by omega
   have hd:ts.drop k = ts[k] :: ts.drop (k + 1):=List.drop_eq_getElem_cons hlt
   obtain ⟨bk,off,rfl,hbk,hcap,hcm,hc,_⟩:=(hv.below hb).get (List.getElem?_eq_getElem hlt)
   have hvb:=hv.below hb
   have hn:=hb.size
   unfold maxLen at hcm
   by_cases h9:ts[k].kind = 9
   ·have HA:Hid (qs.map Prod.fst ++ decls (ts.drop (k + 1)) = A):=by
     show _ = _
     rw [← hA,hd,decls_pass (.inl h9)]
    rw [h9] at hc
    clear hA hd h9 hvb
    go_wp2
    exact ⟨⟨k + 1,qs,_,rfl,by go_num,by omega,by omega,hR,HA,hb⟩,by simp [intOf];omega⟩
   ·by_cases h12:ts[k].kind = 12
    ·have HA:Hid (qs.map Prod.fst ++ decls (ts.drop (k + 1)) = A):=by
      show _ = _
      rw [← hA,hd,decls_pass (.inr h12)]
     rw [h12] at hc
     clear hA hd h9 h12 hvb
     go_wp2
     exact ⟨⟨k + 1,qs,_,rfl,by go_num,by omega,by omega,hR,HA,hb⟩,by simp [intOf];omega⟩
    ·by_cases h2:ts[k].kind = 2
     ·obtain ⟨hu,hD⟩:=at_next hlt h2
      have hI:=ints_new wr [12,14] 3 (by simp)
      have hb1:Below wr.heap.size wr (wr.alloc (.cells (([12,14]:List Int).map (Value.int .i64)).toArray 3)):=(Below.refl _ wr).alloc (Nat.le_refl _) _
      have hs1:(wr.alloc (.cells (([12,14]:List Int).map (Value.int .i64)).toArray 3)).heap.size = wr.heap.size + 1:=World.size_alloc _ _
      have hv1:BtsAt (wr.alloc (.cells (([12,14]:List Int).map (Value.int .i64)).toArray 3)).heap.size _ (.slice (some ⟨bk,off,none⟩) ts.length cap) ts:=(hvb.below (hb1.mono hn)).mono (by omega)
      have hup:=callsIn_wide.1 (upTo_all 1 (Nat.le_refl _) (.slice (some ⟨bk,off,none⟩) ts.length cap) (.slice (some ⟨wr.heap.size,0,none⟩) 2 2) ts [12,14] k _ hv1 (by rw [hs1];exact hI) (by omega) (by omega) (by simp))
      have hle:=upto_le' isEnd (ts.drop (k + 1))
      rw [List.length_drop,kds_drop] at hle
      have hrl:=run_le [] ((kds ts).drop (k + 1 + upto isEnd ((kds ts).drop (k + 1))))
      rw [List.length_drop,kds_length] at hrl
      have HA:Hid (qs.map Prod.fst ++ decls (ts.drop (k + 1 + upto isEnd ((kds ts).drop (k + 1)) + run [] ((kds ts).drop (k + 1 + upto isEnd ((kds ts).drop (k + 1)))))) = A):=by
       show _ = _
       rw [← hA,hD]
      rw [show upto (fun x => ([12,14]:List Int).contains x) ((kds ts).drop k) = upto isEnd ((kds ts).drop k) from rfl,hu,← Nat.add_assoc] at hup
      generalize upto isEnd ((kds ts).drop (k + 1)) = m at *
      rw [h2] at hc
      clear hA hd h2 h9 h12 hI hu hD
      go_wp2_with fail
      refine hup.mono ?_
      clear hup
      rintro e w2 ⟨rfl,hb2⟩
      have hb3:=below_next hb1 hb2
      have hbw:Below w.heap.size w w2:=below_next hb hb3
      have hv2:BtsAt w2.heap.size w2 (.slice (some ⟨bk,off,none⟩) ts.length cap) ts:=(hv.below hbw).mono hbw.size
      have hR2:=hR.kept (grown_of_below' hb3 none)
      by_cases hj:k + 1 + m < ts.length
      ·have hsk:=skip_in _ ts (k + 1 + m) w2 hv2 hj (by omega)
       generalize run [] ((kds ts).drop (k + 1 + m)) = q at *
       go_wp2_with fail
       refine hsk.mono ?_
       clear hsk
       rintro e w3 ⟨rfl,hb4⟩
       go_wp2
       exact ⟨⟨k + 1 + m + q,qs,_,rfl,rfl,by omega,by omega,hR2.kept (grown_of_below' hb4 none),HA,below_next hbw hb4⟩,by simp [intOf];omega⟩
      ·have hsk:=skip_out 108 (.inl rfl) _ ts ((k + 1 + m:Nat):Int) w2 hv2 (.inr (by omega))
       have hq:run [] ((kds ts).drop (k + 1 + m)) = 0:=by omega
       rw [hq,Nat.add_zero] at HA
       go_wp2_with fail
       refine hsk.mono ?_
       clear hsk
       rintro e w3 ⟨rfl,rfl⟩
       go_wp2
       exact ⟨⟨k + 1 + m,qs,_,rfl,rfl,by omega,by omega,hR2,HA,hbw⟩,by simp [intOf];omega⟩
     ·obtain ⟨hm0,hml,hD⟩:=one_next hlt h9 h12 h2
      have hI:=ints_new wr [12] 3 (by simp)
      have hb1:Below wr.heap.size wr (wr.alloc (.cells (([12]:List Int).map (Value.int .i64)).toArray 3)):=(Below.refl _ wr).alloc (Nat.le_refl _) _
      have hs1:(wr.alloc (.cells (([12]:List Int).map (Value.int .i64)).toArray 3)).heap.size = wr.heap.size + 1:=World.size_alloc _ _
      have hv1:BtsAt (wr.alloc (.cells (([12]:List Int).map (Value.int .i64)).toArray 3)).heap.size _ (.slice (some ⟨bk,off,none⟩) ts.length cap) ts:=(hvb.below (hb1.mono hn)).mono (by omega)
      have hup:=callsIn_wide.1 (upTo_all 1 (Nat.le_refl _) (.slice (some ⟨bk,off,none⟩) ts.length cap) (.slice (some ⟨wr.heap.size,0,none⟩) 1 1) ts [12] k _ hv1 (by rw [hs1];exact hI) (by omega) (by omega) (by simp))
      rw [show upto (fun x => ([12]:List Int).contains x) ((kds ts).drop k) = upto isSemi ((kds ts).drop k) from rfl] at hup
      rw [hD] at hA
      generalize upto isSemi ((kds ts).drop k) = m at *
      generalize hE:k + m = E at *
      obtain ⟨l1,hl1⟩:∃ l1,(ts.drop k).take (E - k) = l1:=⟨_,rfl⟩
      have hmE:m = E - k:=by omega
      rw [hmE,hl1] at hA
      have hn1:l1.length = E - k:=by rw [← hl1,List.length_take,List.length_drop];omega
      have hne:l1 ≠ []:=fun e => by rw [e] at hn1;simp at hn1;omega
      have hts:∀ t ∈ l1,t.text.size ≤ maxLen:=fun t h => ht t (mem_part (by rw [hl1];exact h))
      have p1:∀ W,Below w.heap.size w W → BtsAt W.heap.size W (.slice (some ⟨bk,off + k * 5,none⟩) (E - k) (cap - k)) l1:=fun W hW => hl1 ▸ ((hv.below hW).mono hW.size).part (by omega) (by omega) (by unfold maxLen;omega) (fun e => by rw [e] at hlt;simp at hlt)
      have h9':(ts[k].kind == 9) = false:=by simpa using h9
      have h12':(ts[k].kind == 12) = false:=by simpa using h12
      have h2':(ts[k].kind == 2) = false:=by simpa using h2
      have h_a:(k:Int) ≤ (E:Int):=by omega
      have h_b:(E:Int) ≤ (cap:Int):=by omega
      have hck:¬ cap = k:=by omega
      generalize ts[k].kind = kx at *
      clear hd hI hD h9 h12 h2
      go_wp2_with fail
      refine hup.mono ?_
      clear hup
      rintro e w2 ⟨rfl,hb2⟩
      have hb3:=below_next hb1 hb2
      have hbw:Below w.heap.size w w2:=below_next hb hb3
      have h3:=declaration_any _ l1 w2 (p1 _ hbw) hts (by omega) hne
      clear hl1 hts hne hn1 p1
      go_wp2_with fail
      refine h3.mono ?_
      clear h3
      rintro e w3 ⟨hone,hb4⟩
      have hbr3:=below_next hb3 hb4
      have hbw3:=below_next hbw hb4
      rcases hone with ⟨hdn,rfl⟩ | ⟨d,x,hds,rfl,rx⟩
      ·have HA:Hid (qs.map Prod.fst ++ decls (ts.drop E) = A):=by
        show _ = _
        rw [← hA,hdn]
        rfl
       have hb5:Below w3.heap.size w3 (w3.alloc (.cells #[.string ⟨#[]⟩,.slice none 0 0,.bool false] 123)):=(Below.refl _ w3).alloc (Nat.le_refl _) _
       have hR5:=hR.kept (grown_of_below' (below_next hbr3 hb5) none)
       have hbw5:=below_next hbw3 hb5
       clear hA hdn
       go_wp2
       exact ⟨⟨E,qs,_,rfl,rfl,by omega,by omega,hR5,HA,hbw5⟩,by simp [intOf];omega⟩
      ·have HA:Hid ((qs ++ [(d,x)]).map Prod.fst ++ decls (ts.drop E) = A):=by
        show _ = _
        rw [← hA,hds]
        simp
       obtain ⟨q3,c3,rfl⟩:=form_of rx
       obtain ⟨dn,dv,di⟩:=d
       simp only at rx HA ⊢
       have hb5:Below w3.heap.size w3 (w3.alloc (.cells #[.string dn,.slice q3 dv.length c3,.bool di] 123)):=(Below.refl _ w3).alloc (Nat.le_refl _) _
       have hR5:=hR.kept (grown_of_below' (below_next hbr3 hb5) none)
       have hbw5:=below_next hbw3 hb5
       have rx5:=(owns_base rx hbw.size).kept (grown_of_below' hb5 none) (no_block _)
       have hs5:=hbw5.size
       have HC:=cells_new (w3.alloc (.cells #[.string dn,.slice q3 dv.length c3,.bool di] 123)) [.string dn,.slice q3 dv.length c3,.bool di] 123
       rw [World.size_alloc] at HC
       clear hA hds
       go_wp2_with (at_builtin;refine wpList_append_own _ rfl _ _ 79 rfl w.heap.size 123 i0 (.agg #[.string ⟨#[]⟩,.slice none 0 0,.bool false]) 3 48 Tryz.underlying79 hi hz0 hz1 hz2 rfl (by decide) _ _ _ rfl (hR5.row.alloc _) _ 1 1 [.string dn,.slice q3 dv.length c3,.bool di] rfl rfl HC (fun u hu => by simp at hu;rcases hu with rfl | rfl | rfl <;> rfl) (by unfold maxLen;omega) (by omega) (by rw [World.size_alloc];omega) ?_;intro v7 w7 hown7 hgrow7 hnil7)
       have hR7:=hR5.push (q:=(⟨dn,dv,di⟩,.slice q3 dv.length c3)) rx5 hgrow7 hown7
       have hB7:=(hbw5.alloc hs5 _).grown hgrow7 (by rw [World.size_alloc];omega) (fun j e => (hR5.row.lt j e).1)
       go_wp2
       exact ⟨⟨E,qs ++ [((⟨dn,dv,di⟩:Dc),Value.slice q3 dv.length c3)],_,rfl,rfl,by omega,by simp;omega,hR7,HA,hB7⟩,by simp [intOf];omega⟩
  ·have hki:¬ (k:Int) < (ts.length:Int):=by omega
   obtain rfl:qs.map Prod.fst = A:=by
    rw [List.drop_eq_nil_iff.2 (by omega),decls_nil,List.append_nil] at hA
    exact hA
   clear hA
   go_wp2
   go_ret
   exact ⟨_,rfl,⟨qs,rfl,hR⟩,hb⟩
end Go.Proofs.YtagbjmocjaaioaaGreatDoor.Dc
