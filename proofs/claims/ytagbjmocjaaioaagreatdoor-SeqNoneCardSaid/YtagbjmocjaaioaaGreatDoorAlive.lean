/- Plain facts, no program: the code points of bytes as a list function, how a text is prepared, and that the document's own way (looking ahead) gives the same list. -/
import Derived.Test.YtagbjmocjaaioaaGreatDoorSeq
import Derived.Test.YtagbjmocjaaioaaGreatDoorShelf
import Derived.Lib.DecodeN
import Derived.Shelf.Unicode.DecodeSlow
import Derived.Shelf.Abstract
import Derived.WalkKit
import Derived.OwnWalkIn
import Derived.TacticsInMore
import Derived.LoopNIn
import Derived.LoopIn
import Derived.Maps.AppendAt
import Derived.Shelf.RegionOpen
namespace Go.Proofs.YtagbjmocjaaioaaGreatDoor
open Go Go.Lib
def dec (l:List UInt8):Nat × Nat:=Lib.decodeGo ⟨l.toArray⟩
theorem get!_eq (l:List UInt8) (j:Nat):(⟨l.toArray⟩:ByteArray).get! j = l[j]?.getD 0:=by
 show l.toArray[j]! = _
 rw [getElem!_def]
 simp only [List.getElem?_toArray]
 cases l[j]? <;> rfl
theorem dec_eq {l:List UInt8} (h:l ≠ []):dec l = decodeN l.length (l[0]?.getD 0).toNat (l[1]?.getD 0).toNat (l[2]?.getD 0).toNat (l[3]?.getD 0).toNat:=by
 have hs:(⟨l.toArray⟩:ByteArray).size = l.length:=by simp [ByteArray.size]
 have h0:l.length ≠ 0:=fun e => h (List.length_eq_zero_iff.1 e)
 unfold dec Lib.decodeGo
 rw [if_neg (by rw [hs];exact h0),Lib.decode_at,hs]
 simp only [get!_eq,Nat.sub_zero,Nat.zero_add]
theorem decodeN_bounds (n b0 b1 b2 b3:Nat) (hn:1 ≤ n):1 ≤ (decodeN n b0 b1 b2 b3).2 ∧ (decodeN n b0 b1 b2 b3).2 ≤ n ∧ (decodeN n b0 b1 b2 b3).1 ≤ 1114111:=by
 unfold decodeN
 repeat' split
 all_goals (simp only;omega)
theorem dec_bounds {l:List UInt8} (h:l ≠ []):1 ≤ (dec l).2 ∧ (dec l).2 ≤ l.length ∧ (dec l).1 ≤ 1114111:=by
 rw [dec_eq h]
 exact decodeN_bounds _ _ _ _ _ (List.length_pos_iff.2 h)
def ptsF:Nat → List UInt8 → List Nat
 | 0,_ => []
 | f + 1,l => if l = [] then [] else (dec l).1 :: ptsF f (l.drop (dec l).2)
def pts (l:List UInt8):List Nat:=ptsF l.length l
theorem ptsF_more:∀ (f g:Nat) (l:List UInt8),l.length ≤ f → l.length ≤ g → ptsF f l = ptsF g l
 | 0,0,_,_,_ => rfl
 | 0,g + 1,l,h,_ => by
  have:l = []:=List.length_eq_zero_iff.1 (by omega)
  subst this;simp [ptsF]
 | f + 1,0,l,_,h => by
  have:l = []:=List.length_eq_zero_iff.1 (by omega)
  subst this;simp [ptsF]
 | f + 1,g + 1,l,h1,h2 => by
  unfold ptsF
  by_cases e:l = []
  ·simp [e]
  ·have:=dec_bounds e
   rw [if_neg e,if_neg e,ptsF_more f g _ (by simp;omega) (by simp;omega)]
@[simp] theorem pts_nil:pts [] = []:=rfl
theorem pts_cons {l:List UInt8} (h:l ≠ []):pts l = (dec l).1 :: pts (l.drop (dec l).2):=by
 have hp:=List.length_pos_iff.2 h
 obtain ⟨f,hf⟩:∃ f,l.length = f + 1:=⟨l.length - 1,by omega⟩
 have:=dec_bounds h
 unfold pts
 rw [hf]
 conv => lhs;unfold ptsF
 rw [if_neg h,ptsF_more f _ _ (by simp;omega) (Nat.le_refl _)]
theorem pts_len:∀ (f:Nat) (l:List UInt8),l.length ≤ f → (pts l).length ≤ l.length
 | 0,l,h => by
  have:l = []:=List.length_eq_zero_iff.1 (by omega)
  subst this;simp
 | f + 1,l,h => by
  by_cases e:l = []
  ·simp [e]
  ·have hb:=dec_bounds e
   rw [pts_cons e]
   have:=pts_len f (l.drop (dec l).2) (by simp;omega)
   simp at this ⊢
   omega
theorem pts_length_le (l:List UInt8):(pts l).length ≤ l.length:=pts_len _ l (Nat.le_refl _)
/-! ### Prepared -/
def repl (p:Int):Int:=if p = 13 ∨ p = 12 then 10 else if p = 0 then 65533 else p
def cr (l:List Int):Bool:=l.getLast? == some 13
def prepFrom:Bool → List Int → List Int
 | _,[] => []
 | c,p :: t => if c = true ∧ p = 10 then prepFrom (p == 13) t else repl p :: prepFrom (p == 13) t
def prep (l:List Int):List Int:=prepFrom false l
theorem prepFrom_snoc (p:Int):∀ (l:List Int) (c:Bool),prepFrom c (l ++ [p]) = prepFrom c l ++ (if (if l = [] then c else cr l) = true ∧ p = 10 then [] else [repl p])
 | [],c => by
  by_cases h:c = true ∧ p = 10 <;> simp [prepFrom,h]
 | q :: t,c => by
  have ih:=prepFrom_snoc p t (q == 13)
  have hc:(if t = [] then (q == 13) else cr t) = cr (q :: t):=by
   cases t with
   | nil => simp [cr]
   | cons a b => simp [cr,List.getLast?_cons_cons]
  rw [hc] at ih
  simp only [List.cons_append,prepFrom,ih]
  by_cases h:c = true ∧ q = 10 <;> simp [h]
theorem prep_hit (pre:List Int) {x:Int} (h:cr pre = true ∧ x = 10):prep (pre ++ [x]) = prep pre:=by
 unfold prep
 rw [prepFrom_snoc]
 have hn:pre ≠ []:=fun e => by rw [e] at h;simp [cr] at h
 simp [hn,h]
theorem prep_miss (pre:List Int) {x:Int} (h:¬ (cr pre = true ∧ x = 10)):prep (pre ++ [x]) = prep pre ++ [repl x]:=by
 unfold prep
 rw [prepFrom_snoc]
 by_cases hn:pre = []
 ·simp [hn]
 ·simp only [hn,if_false]
  rw [if_neg h]
@[simp] theorem cr_snoc (pre:List Int) (x:Int):cr (pre ++ [x]) = (x == 13):=by
 rw [Bool.eq_iff_iff]
 simp [cr]
theorem prepFrom_len:∀ (l:List Int) (c:Bool),(prepFrom c l).length ≤ l.length
 | [],c => by simp [prepFrom]
 | p :: t,c => by
  have:=prepFrom_len t (p == 13)
  simp only [prepFrom]
  split <;> simp <;> omega
theorem prep_length_le (l:List Int):(prep l).length ≤ l.length:=prepFrom_len l false
def ipts (l:List UInt8):List Int:=(pts l).map Int.ofNat
theorem ipts_length_le (l:List UInt8):(ipts l).length ≤ l.length:=by unfold ipts;rw [List.length_map];exact pts_length_le l
theorem ipts_cons {l:List UInt8} (h:l ≠ []):ipts l = ((dec l).1:Int) :: ipts (l.drop (dec l).2):=by unfold ipts;rw [pts_cons h];rfl
end Go.Proofs.YtagbjmocjaaioaaGreatDoor

/- The iterator text.decoded, at every slice of bytes: it tells the code points of the bytes, one by one, and keeps nothing of its own in memory. -/
set_option maxRecDepth 100000
namespace Go.Proofs.YtagbjmocjaaioaaGreatDoor
open Go Go.RowKit Go.Shelf
attribute [local go_sem] Oper.semAt_some
def BytesAt (n₀:Nat) (W:World) (v:Value) (l:List UInt8):Prop:=
 (l = [] ∧ (v = .slice none 0 0 ∨ ∃ x cap,v = .slice (some x) 0 cap)) ∨ ∃ bk off cap,v = .slice (some ⟨bk,off,none⟩) l.length cap ∧ l.length ≤ cap ∧ cap ≤ maxLen ∧ bk < n₀ ∧ ∀ j u,l[j]? = some u → W.cell? ⟨bk,off + j,none⟩ = some (.int .u8 u.toNat)
theorem BytesAt.cases {n₀:Nat} {X:World} {v:Value} {l:List UInt8} (h:BytesAt n₀ X v l) :
  (l = [] ∧ ∃ p cap,v = .slice p 0 cap) ∨ ∃ bk off cap,v = .slice (some ⟨bk,off,none⟩) l.length cap ∧ l.length ≤ cap ∧ cap ≤ maxLen ∧ bk < n₀ ∧ ∀ j u,l[j]? = some u → X.cell? ⟨bk,off + j,none⟩ = some (.int .u8 u.toNat):=by
 rcases h with ⟨h1,rfl | ⟨x,cap,rfl⟩⟩ | h
 ·exact .inl ⟨h1,_,_,rfl⟩
 ·exact .inl ⟨h1,_,_,rfl⟩
 ·exact .inr h
theorem BytesAt.below {n₀:Nat} {X Y:World} {v:Value} {l:List UInt8} (h:BytesAt n₀ X v l) (hb:Below n₀ X Y):BytesAt n₀ Y v l:=by
 rcases h with h | ⟨bk,off,cap,rfl,hc,hm,hbk,h⟩
 ·exact .inl h
 ·exact .inr ⟨bk,off,cap,rfl,hc,hm,hbk,fun j u hj => (hb.cell (p:=⟨bk,off + j,none⟩) hbk).trans (h j u hj)⟩
theorem BytesAt.mono {n₀ n₁:Nat} {X:World} {v:Value} {l:List UInt8} (h:BytesAt n₀ X v l) (hn:n₀ ≤ n₁):BytesAt n₁ X v l:=by
 rcases h with h | ⟨bk,off,cap,rfl,hc,hm,hbk,h⟩
 ·exact .inl h
 ·exact .inr ⟨bk,off,cap,rfl,hc,hm,by omega,h⟩
def Tabs (n₀:Nat) (W:World):Prop:=1 < n₀ ∧ 2 < n₀ ∧ Lib.Utf8Tabs 1 2 W
theorem Tabs.below {n₀:Nat} {X Y:World} (h:Tabs n₀ X) (hb:Below n₀ X Y):Tabs n₀ Y:=
 ⟨h.1,h.2.1,fun c hc => (hb.cell (p:=⟨_,c,none⟩) h.1).trans (h.2.2.1 c hc),fun i hi => ⟨(hb.cell (p:=⟨_,2 * i,none⟩) h.2.1).trans (h.2.2.2 i hi).1,(hb.cell (p:=⟨_,2 * i + 1,none⟩) h.2.1).trans (h.2.2.2 i hi).2⟩⟩
theorem Tabs.mono {n₀ n₁:Nat} {X:World} (h:Tabs n₀ X) (hn:n₀ ≤ n₁):Tabs n₁ X:=⟨Nat.lt_of_lt_of_le h.1 hn,Nat.lt_of_lt_of_le h.2.1 hn,h.2.2⟩
theorem decodeRune_at (l:List UInt8) (bk off cap:Nat) (w:World) (hT:Tabs w.heap.size w) (hp:∀ j u,l[j]? = some u → w.cell? ⟨bk,off + j,none⟩ = some (.int .u8 u.toNat)) :
  Calls Tryz.prog 156 #[.slice (some ⟨bk,off,none⟩) l.length cap] w fun e w' => e = .returned (.tuple #[.int .i32 (dec l).1,.int .i64 (dec l).2]) ∧ Below w.heap.size w w':=by
 have hs:(⟨l.toArray⟩:ByteArray).size = l.length:=by simp [ByteArray.size]
 have:=Tryz.utf8_DecodeRune ⟨l.toArray⟩ bk off cap w hT.2.2 (fun j hj => by
  rw [get!_eq]
  rw [hs] at hj
  have he:l[j]? = some l[j]:=List.getElem?_eq_getElem hj
  rw [he]
  exact hp j _ he)
 rw [hs] at this
 exact this
set_option maxHeartbeats 1000000 in
theorem decoded1_in (n l Bb n₀:Nat) (v:Value) (bs:List UInt8) (J:List Int → World → Prop) (W:World) (hBb:Bb < n₀) (hn₀:n₀ ≤ W.heap.size)
  (hJ:AbidesIn W.heap.size W.heap.size J)
  (hY:∀ pre x W1,J pre W1 → pre.length < (ipts bs).length → W.heap.size ≤ W1.heap.size → YieldAt Fence.wide (n - 1) Tryz.prog l #[.int .i64 x] W1 fun e W' => e = .returned (.bool true) ∧ J (pre ++ [x]) W' ∧ Below n₀ W1 W')
  (hc:W.cell? ⟨Bb,0,none⟩ = some v) (hB:BytesAt n₀ W v bs) (hT:Tabs n₀ W) (h0:J [] W) :
  CallsIn Fence.wide n Tryz.prog 155 #[.func (.yield l) #[] #[],.pointer (some ⟨Bb,0,none⟩)] W fun e W' => (∃ v,e = .returned v) ∧ ∃ ys,ys = ipts bs ∧ J ys W':=by
 refine callsIn_of_wp Tryz.func155 rfl trivial ?_ rfl
 simp only [Tryz.ntmps155,List.size_toArray,List.length_cons,List.length_nil,Nat.reduceAdd,Nat.reduceSub,Array.replicate_succ,Array.replicate_zero,List.push_toArray,List.append_toArray,List.nil_append,List.cons_append]
 gi_wp2
 gi_loopw [3] (fun p wr => ∃ (k:Nat) (pre:List Int),p = .int .i64 k ∧ k ≤ bs.length ∧ ipts bs = pre ++ ipts (bs.drop k) ∧ J pre wr ∧ Below n₀ W wr)
  (fun p _ => bs.length - (intOf p).toNat)
 case atStart => exact ⟨0,[],rfl,Nat.zero_le _,rfl,h0,Below.refl _ _⟩
 case round =>
  obtain ⟨k,pre,rfl,hk,hx,hJs,hb⟩:=hrel
  have hc':=(hb.cell (p:=⟨Bb,0,none⟩) hBb).trans hc
  have hB':=hB.below hb
  have hT':=(hT.below hb).mono (Nat.le_trans hn₀ hb.size)
  rcases hB'.cases with ⟨rfl,p,cap,rfl⟩ | ⟨bk,off,cap,rfl,hcap,hmx,hbk,hcells⟩
  ·obtain rfl:k = 0:=by simpa using hk
   gi_wp2
   go_end0
   exact ⟨⟨_,rfl⟩,pre,by simpa [ipts] using hx.symm,hJs⟩
  ·by_cases hlt:k < bs.length
   ·have hne:bs.drop k ≠ []:=by rw [Ne,List.drop_eq_nil_iff];omega
    have hdb:=dec_bounds hne
    have hxc:=ipts_cons hne
    have hcells':∀ j u,(bs.drop k)[j]? = some u → wr.cell? ⟨bk,off + k + j,none⟩ = some (.int .u8 u.toNat):=fun j u hj => by
     rw [Nat.add_assoc];exact hcells (k + j) u (by rw [← hj,List.getElem?_drop])
    have hdl:(bs.drop k).length = bs.length - k:=by simp
    unfold maxLen at hmx
    have hki:(k:Int) < (bs.length:Int):=by omega
    have hcall:=decodeRune_at (bs.drop k) bk (off + k) (cap - k) wr hT' hcells'
    rw [hdl] at hcall hdb
    have hlen:pre.length < (ipts bs).length:=by rw [hx,hxc];simp
    have hxn:ipts bs = (pre ++ [((dec (bs.drop k)).1:Int)]) ++ ipts (bs.drop (k + (dec (bs.drop k)).2)):=by
     rw [hx,hxc,List.drop_drop];simp
    clear hxc hdl hcells' hcells hne
    obtain ⟨hd1,hd2,hd3⟩:=hdb
    generalize (dec (bs.drop k)).1 = r at *
    generalize (dec (bs.drop k)).2 = s at *
    have HX:Hid (_ = _):=hx
    have HN:Hid (_ = _):=hxn
    clear hx hxn
    gi_wp2_with fail
    refine ⟨trivial,fun h => (by cases h),?_⟩
    refine (callsIn_wide.2 hcall).mono ?_
    clear hcall
    rintro e w2 ⟨rfl,hb2⟩
    have hJ2:J pre w2:=hJ pre wr w2 none hJs ⟨hb2.os,hb2.tape,hb2.output,hb2.size,fun q hq _ => hb2.block q hq⟩ (fun _ e => by cases e)
    have hbw2:Below n₀ W w2:=hb.trans (hb2.mono (Nat.le_trans hn₀ hb.size))
    obtain ⟨fn,tmps,assign,body,hy,hR⟩:=hY pre (r:Int) w2 hJ2 hlen hbw2.size
    clear hY
    have hr0:(0:Int) ≤ (r:Int):=by omega
    have hr1:(r:Int) ≤ 1114111:=by omega
    gi_wp2_with fail
    refine ⟨fun h => (by cases h),hR.mono ?_⟩
    rintro e w3 ⟨rfl,hJ3,hb3⟩
    have hks:(k:Int) + (s:Int) ≤ (bs.length:Int):=by omega
    gi_wp2
    go_roundw
    case rel => exact ⟨k + s,pre ++ [(r:Int)],by go_num,by omega,HN,hJ3,hbw2.trans hb3⟩
    case measure => simp [intOf];omega
   ·have hke:k = bs.length:=by omega
    subst hke
    gi_wp2
    go_end0
    exact ⟨⟨_,rfl⟩,pre,by simpa [ipts] using hx.symm,hJs⟩
theorem decoded_in (n:Nat) (v:Value) (w:World) (hv:v.oneCell' = true) :
  CallsIn Fence.wide n Tryz.prog 114 #[v] w fun e w' => e = .returned (.func (.func 155) #[] #[.pointer (some ⟨w.heap.size,0,none⟩)]) ∧ w' = w.alloc (.cells #[v] 22):=by
 refine callsIn_of_wp Tryz.func114 rfl trivial ?_ rfl
 simp only [Tryz.ntmps114,List.size_toArray,List.length_cons,List.length_nil,Nat.reduceAdd,Nat.reduceSub,Array.replicate_succ,Array.replicate_zero,List.push_toArray,List.append_toArray,List.nil_append,List.cons_append]
 gi_wp2
 go_ret
 exact ⟨rfl,rfl⟩
theorem decoded_seq (n Bb n₀:Nat) (v:Value) (bs:List UInt8) (w:World) (hBb:Bb < n₀) (hn₀:n₀ ≤ w.heap.size)
  (hc:w.cell? ⟨Bb,0,none⟩ = some v) (hB:BytesAt n₀ w v bs) (hT:Tabs n₀ w) :
  SeqX Fence.wide n Tryz.prog 155 #[.pointer (some ⟨Bb,0,none⟩)] (fun x:Int => #[.int .i64 x]) n₀ (fun ys => ys = ipts bs) (ipts bs).length 0 w:=fun l J W hW hJ hY h0 =>
 decoded1_in n l Bb n₀ v bs J W hBb (Nat.le_trans hn₀ hW.size) hJ (fun pre x W1 h1 h2 h3 => (hY pre x W1 h1 h2 h3).mono (fun _ _ h => ⟨h.1,h.2.1,h.2.2.below⟩))
  ((hW.cell (p:=⟨Bb,0,none⟩) (by simp;omega)).trans hc) (hB.below (hW.mono hn₀)) (hT.below (hW.mono hn₀)) h0
end Go.Proofs.YtagbjmocjaaioaaGreatDoor

/- The iterator text.prepared over whatever iterator tells integers: it tells the same, prepared; it keeps two variables in memory. -/
set_option maxRecDepth 100000
namespace Go.Proofs.YtagbjmocjaaioaaGreatDoor
open Go Go.RowKit Go.Shelf
attribute [local go_sem] Oper.semAt_some
set_option maxHeartbeats 400000 in
theorem replaced_any (p:Int) (w:World):Calls Tryz.prog 154 #[.int .i64 p] w fun e w' => e = .returned (.int .i64 (repl p)) ∧ w' = w:=by
 by_cases h13:p = 13
 ·subst h13
  go_enter Tryz.func154,Tryz.ntmps154
  go_wp2
  go_ret
  exact ⟨rfl,rfl⟩
 ·by_cases h12:p = 12
  ·subst h12
   go_enter Tryz.func154,Tryz.ntmps154
   go_wp2
   go_ret
   exact ⟨rfl,rfl⟩
  ·by_cases h0:p = 0
   ·subst h0
    go_enter Tryz.func154,Tryz.ntmps154
    go_wp2
    go_ret
    exact ⟨rfl,rfl⟩
   ·have hr:repl p = p:=by simp [repl,h13,h12,h0]
    rw [hr]
    have e13:(p == 13) = false:=by simpa using h13
    have e12:(p == 12) = false:=by simpa using h12
    have e0:(p == 0) = false:=by simpa using h0
    go_enter Tryz.func154,Tryz.ntmps154
    go_wp2
    go_ret
    exact ⟨rfl,rfl⟩
theorem roundAny {n m l' l:Nat} {f:FuncId} {tmps:Array Value} {assign body:Code} {w:World} {R:Ending → World → Prop} (h:RoundIn Fence.wide n Tryz.prog l f tmps assign body w R) :
  RoundIn (Fence.wide.inRound l') m Tryz.prog l f tmps assign body w R:=⟨h.1,fun c cs _ => h.2 c cs (fun d hd => by cases hd)⟩
theorem follows:Tryz.prog.follows .mixedOrders = true:=by kernel_rfl
set_option maxHeartbeats 1000000 in
theorem prepared1_in (n l Bp n₀ M:Nat) (gf:Nat) (lb:Array Value) (xs:List Int) (J:List Int → World → Prop) (W:World) (hBp:Bp < n₀) (hn₀:n₀ ≤ W.heap.size)
  (eg:∀ args w,(callFunc gf args).run Tryz.prog w = .ok (.enter gf args) w) (hn:1 ≤ n)
  (hseq:SeqX Fence.wide (n - 1) Tryz.prog gf lb (fun x:Int => #[.int .i64 x]) n₀ (fun ys => ys = xs) M 0 W)
  (hJ:AbidesIn W.heap.size (W.heap.size + 4) J)
  (hY:∀ pre x W1,J pre W1 → pre.length < M → W.heap.size + 4 ≤ W1.heap.size → YieldAt Fence.wide (n - 1) Tryz.prog l #[.int .i64 x] W1 fun e W' => e = .returned (.bool true) ∧ J (pre ++ [x]) W' ∧ KeepsIn n₀ W.heap.size (W.heap.size + 4) W1 W')
  (hc:W.cell? ⟨Bp,0,none⟩ = some (.func (.func gf) #[] lb)) (h0:J [] W) :
  CallsIn Fence.wide n Tryz.prog 153 #[.func (.yield l) #[] #[],.pointer (some ⟨Bp,0,none⟩)] W fun e W' => (∃ v,e = .returned v) ∧ ∃ ys,ys = prep xs ∧ J ys W':=by
 refine callsIn_of_wp_marks Tryz.func153 rfl trivial ?_ rfl
 simp only [Tryz.ntmps153,List.size_toArray,List.length_cons,List.length_nil,Nat.reduceAdd,Nat.reduceSub,Array.replicate_succ,Array.replicate_zero,List.push_toArray,List.append_toArray,List.nil_append,List.cons_append]
 have hc2:((W.alloc (.cells #[.func (.yield l) #[] #[]] 93)).alloc (.cells #[.bool false] 4)).cell? ⟨Bp,0,none⟩ = some (.func (.func gf) #[] lb):=
  ((((Below.refl n₀ W).alloc hn₀ _).alloc (by simp;omega) _).cell (p:=⟨Bp,0,none⟩) hBp).trans hc
 gi_wp2
 have bY:=Boxed.new W 93 (.func (.yield l) #[] #[])
 have bB:=Boxed.new (W.alloc (.cells #[.func (.yield l) #[] #[]] 93)) 4 (.bool false)
 replace bY:=bY.alloc (.cells #[.bool false] 4)
 rw [World.size_alloc] at bB
 have hJ0:J [] ((W.alloc (.cells #[.func (.yield l) #[] #[]] 93)).alloc (.cells #[.bool false] 4)):=hJ.alloc _ (hJ.alloc _ h0)
 have hB0:Below W.heap.size W ((W.alloc (.cells #[.func (.yield l) #[] #[]] 93)).alloc (.cells #[.bool false] 4)):=((Below.refl _ W).alloc (Nat.le_refl _) _).alloc (by simp) _
 have hs0:((W.alloc (.cells #[.func (.yield l) #[] #[]] 93)).alloc (.cells #[.bool false] 4)).heap.size = W.heap.size + 2:=by simp
 clear hc2
 generalize ((W.alloc (.cells #[.func (.yield l) #[] #[]] 93)).alloc (.cells #[.bool false] 4)) = w2 at *
 refine wpIn_rangeFunc_X rfl hn (gf:=gf) (lb:=lb) rfl trivial eg (hseq.later hB0) (by omega) (Below.refl _ _) (fun _ => rfl)
  (fun pre X => J (prep pre) X ∧ Boxed X W.heap.size 93 (.func (.yield l) #[] #[]) ∧ Boxed X (W.heap.size + 1) 4 (.bool (cr pre)))
  ?hI ⟨hJ0,bY,bB⟩
  (fun x => { tmps:=#[.func (.yield l) #[] #[],.pointer (some ⟨Bp,0,none⟩),.pointer (some ⟨W.heap.size,0,none⟩),.pointer (some ⟨W.heap.size + 1,0,none⟩),.int .i64 x,undef,.func (.func gf) #[] lb,.int .i64 x,undef,undef,undef,undef,undef,undef,undef,undef,undef,undef,undef,undef,undef],defers:=[] }) ?assign ?body ?done
 case hI =>
  intro s X Y row hs hg hr
  rw [hs0] at hr
  exact ⟨hJ _ X Y row hs.1 hg (fun r e => by have:=hr r e;omega),hs.2.1.kept hg (fun e => by have:=hr _ e.symm;omega),hs.2.2.kept hg (fun e => by have:=hr _ e.symm;omega)⟩
 case assign =>
  intro l x X K hK
  gi_wp2
  exact hK
 case body =>
  rintro l' pre x X ⟨hj,hy,hb⟩ hlt hsz
  have hcy:=hy.cell
  have hcb:=hb.cell
  have hfb:=hb.frozen
  have hset:KeepsIn n₀ w2.heap.size (w2.heap.size + 2 + 0) X (X.setCell ⟨W.heap.size + 1,0,none⟩ (.bool (x == 13))):=
   KeepsIn.of_grownBy (grownBy_setCell' X _ _) (by omega) (by omega) (fun r e => by cases e;omega)
  have hj1:J (prep pre) (X.setCell ⟨W.heap.size + 1,0,none⟩ (.bool (x == 13))):=hJ.setCell _ hj (by omega) (by omega)
  have hb1:Boxed (X.setCell ⟨W.heap.size + 1,0,none⟩ (.bool (x == 13))) (W.heap.size + 1) 4 (.bool (cr (pre ++ [x]))):=by rw [cr_snoc];exact hb.set _
  have hy1:Boxed (X.setCell ⟨W.heap.size + 1,0,none⟩ (.bool (x == 13))) W.heap.size 93 (.func (.yield l) #[] #[]):=hy.kept (grownBy_setCell' X _ _) (by simp)
  by_cases hit:cr pre = true ∧ x = 10
  ·obtain ⟨h1,rfl⟩:=hit
   rw [h1] at hcb
   gi_wp2
   exact ⟨hset,by rw [prep_hit pre ⟨h1,rfl⟩];exact hj1,hy1,hb1⟩
  ·have hsz1:(X.setCell ⟨W.heap.size + 1,0,none⟩ (.bool (x == 13))).heap.size = X.heap.size:=World.size_setCell _ _ _
   have hlen:(prep pre).length < M:=by have:=prep_length_le pre;omega
   obtain ⟨fn,tmps,assign,body,hyi,hR⟩:=hY (prep pre) (repl x) _ (hJ.drew hj1) hlen (by show _ ≤ (X.setCell _ _).heap.size;rw [hsz1];omega)
   have hcy1:=hy1.cell
   have FIN:Hid (∀ w3,J (prep pre ++ [repl x]) w3 → KeepsIn n₀ W.heap.size (W.heap.size + 4) (X.setCell ⟨W.heap.size + 1,0,none⟩ (.bool (x == 13))).drew w3 →
     KeepsIn n₀ w2.heap.size (w2.heap.size + 2 + 0) X w3 ∧ J (prep (pre ++ [x])) w3 ∧ Boxed w3 W.heap.size 93 (.func (.yield l) #[] #[]) ∧ Boxed w3 (W.heap.size + 1) 4 (.bool (cr (pre ++ [x])))):=fun w3 hJ3 hk3 => by
    have hd:KeepsIn n₀ W.heap.size (W.heap.size + 4) (X.setCell ⟨W.heap.size + 1,0,none⟩ (.bool (x == 13))) (X.setCell ⟨W.heap.size + 1,0,none⟩ (.bool (x == 13))).drew:=KeepsIn.of_grownBy (grownBy_drew _ none) (by rw [hsz1];omega) (by rw [hsz1];omega) (fun r e => by cases e)
    have hk:=hd.trans hk3
    exact ⟨hset.trans (hk.mono (Nat.le_refl _) (by omega) (by omega)),by rw [prep_miss pre hit];exact hJ3,(hk.own _ (by omega) (by omega)).trans hy1,(hk.own _ (by omega) (by omega)).trans hb1⟩
   have hfo:=follows
   rcases hc0:cr pre with _ | _
   ·rw [hc0] at hcb
    clear hc0
    gi_wp2_with fail
    gi_region_with_o (first | (refine ⟨trivial,fun h => (by cases h),?_⟩;gi_at_call 154;refine (CallsIn.inRound l' (callsIn_wide.2 (replaced_any x _))).mono ?_;rintro e w' ⟨rfl,rfl⟩) | (refine ⟨fun h => (by cases h),(roundAny hR).mono ?_⟩;rintro e w3 ⟨rfl,hJ3,hk3⟩))
    all_goals gi_wp2
    all_goals exact (show _ from FIN) _ hJ3 hk3
   ·rw [hc0] at hcb
    have hx10:(x == 10) = false:=by
     rw [beq_eq_false_iff_ne]
     exact fun e => hit ⟨hc0,e⟩
    clear hc0
    gi_wp2_with fail
    gi_region_with_o (first | (refine ⟨trivial,fun h => (by cases h),?_⟩;gi_at_call 154;refine (CallsIn.inRound l' (callsIn_wide.2 (replaced_any x _))).mono ?_;rintro e w' ⟨rfl,rfl⟩) | (refine ⟨fun h => (by cases h),(roundAny hR).mono ?_⟩;rintro e w3 ⟨rfl,hJ3,hk3⟩))
    all_goals gi_wp2
    all_goals exact (show _ from FIN) _ hJ3 hk3
 case done =>
  rintro ys X rfl ⟨hj,hy,hb⟩ hK
  gi_wp2
  refine ⟨by simp,.inl ⟨_,_,rfl,run_takeDeferred hK,?_⟩⟩
  exact ⟨_,results_none rfl _ _ _,⟨_,rfl⟩,_,rfl,hJ.putObj _ hj (by omega) (by omega)⟩
theorem prepared_in (n gf:Nat) (lb:Array Value) (w:World) :
  CallsIn Fence.wide n Tryz.prog 113 #[.func (.func gf) #[] lb] w fun e w' => e = .returned (.func (.func 153) #[] #[.pointer (some ⟨w.heap.size,0,none⟩)]) ∧ w' = w.alloc (.cells #[.func (.func gf) #[] lb] 181):=by
 refine callsIn_of_wp Tryz.func113 rfl trivial ?_ rfl
 simp only [Tryz.ntmps113,List.size_toArray,List.length_cons,List.length_nil,Nat.reduceAdd,Nat.reduceSub,Array.replicate_succ,Array.replicate_zero,List.push_toArray,List.append_toArray,List.nil_append,List.cons_append]
 gi_wp2
 go_ret
 exact ⟨rfl,rfl⟩
theorem prepared_seq (n Bp n₀ M gf:Nat) (lb:Array Value) (xs:List Int) (w:World) (hn:1 ≤ n) (hBp:Bp < n₀) (hn₀:n₀ ≤ w.heap.size) (eg:∀ args w,(callFunc gf args).run Tryz.prog w = .ok (.enter gf args) w)
  (hseq:SeqX Fence.wide (n - 1) Tryz.prog gf lb (fun x:Int => #[.int .i64 x]) n₀ (fun ys => ys = xs) M 0 w)
  (hc:w.cell? ⟨Bp,0,none⟩ = some (.func (.func gf) #[] lb)) :
  SeqX Fence.wide n Tryz.prog 153 #[.pointer (some ⟨Bp,0,none⟩)] (fun x:Int => #[.int .i64 x]) n₀ (fun ys => ys = prep xs) M 4 w:=fun l J W hW hJ hY h0 =>
 prepared1_in n l Bp n₀ M gf lb xs J W hBp (Nat.le_trans hn₀ hW.size) eg hn (hseq.later hW) hJ hY ((hW.cell (p:=⟨Bp,0,none⟩) (by simp;omega)).trans hc) h0
end Go.Proofs.YtagbjmocjaaioaaGreatDoor

/- text.gather over whatever iterator tells at most as many integers as there is room for; text.Points and text.Prepare at every slice of bytes. -/
set_option maxRecDepth 100000
namespace Go.Proofs.YtagbjmocjaaioaaGreatDoor
open Go Go.RowKit Go.Shelf
attribute [local go_sem] Oper.semAt_some
theorem infoInt:(Tryz.prog.info? 3).map (fun i => (i.zero,i.size,i.bytes)) = some (some (.int .i64 0),1,8):=by kernel_rfl
set_option maxHeartbeats 1000000 in
theorem gather_in (n n₀ room k gf:Nat) (lb:Array Value) (xs:List Int) (w:World) (hn:1 ≤ n) (hn₀:n₀ ≤ w.heap.size) (hroom:room * 8 ≤ 281474976710656) (eg:∀ args w,(callFunc gf args).run Tryz.prog w = .ok (.enter gf args) w)
  (hseq:SeqX Fence.wide (n - 1) Tryz.prog gf lb (fun x:Int => #[.int .i64 x]) n₀ (fun ys => ys = xs) room k w) :
  CallsIn Fence.wide n Tryz.prog 112 #[.func (.func gf) #[] lb,.int .i64 room] w fun e w' => ∃ v,e = .returned v ∧ w'.ownsRow w.heap.size 3 1 v xs.length (xs.map (Value.int .i64)) ∧ Below w.heap.size w w':=by
 obtain ⟨i0,hi,hz0,hz1,hz2⟩:=info_parts infoInt
 refine callsIn_of_wp_marks Tryz.func112 rfl trivial ?_ rfl
 simp only [Tryz.ntmps112,List.size_toArray,List.length_cons,List.length_nil,Nat.reduceAdd,Nat.reduceSub,Array.replicate_succ,Array.replicate_zero,List.push_toArray,List.append_toArray,List.nil_append,List.cons_append]
 gi_wp2_with (gi_at_make;refine wpListIn_make_own _ rfl _ _ 58 rfl w.heap.size 3 i0 (.int .i64 0) 1 Tryz.underlying58 hi hz0 hz1 .i64 .i64 room room rfl rfl rfl (by rw [hz2];omega) (by unfold maxLen;omega) (Nat.le_refl _) ?_;intro w1 hrow0 hgrow0)
 have hw1:w.heap.size < w1.heap.size:=(hrow0.lt _ rfl).2
 have bO:=Boxed.new w1 58 (.slice (some ⟨w.heap.size,0,none⟩) 0 room)
 have hr0:=hrow0.alloc (.cells #[.slice (some ⟨w.heap.size,0,none⟩) 0 room] 58)
 have hB0:Below w.heap.size w (w1.alloc (.cells #[.slice (some ⟨w.heap.size,0,none⟩) 0 room] 58)):=
  ((Below.refl _ w).grown hgrow0 (Nat.le_refl _) (fun _ e => by cases e)).alloc (by omega) _
 have hs0:(w1.alloc (.cells #[.slice (some ⟨w.heap.size,0,none⟩) 0 room] 58)).heap.size = w1.heap.size + 1:=by simp
 generalize w1.alloc (.cells #[.slice (some ⟨w.heap.size,0,none⟩) 0 room] 58) = w2 at *
 refine wpIn_rangeFunc_X rfl hn (gf:=gf) (lb:=lb) rfl trivial eg (hseq.later hB0) (by omega) (Below.refl _ _) (fun _ => rfl)
  (fun pre X => Boxed X w1.heap.size 58 (.slice (some ⟨w.heap.size,0,none⟩) pre.length room) ∧ X.ownsRow w.heap.size 3 1 (.slice (some ⟨w.heap.size,0,none⟩) pre.length room) pre.length (pre.map (Value.int .i64)) ∧ Below w.heap.size w X)
  ?hI ⟨bO,hr0,hB0⟩
  (fun x => { tmps:=#[.func (.func gf) #[] lb,.int .i64 room,undef,undef,.slice none 0 0,.pointer (some ⟨w1.heap.size,0,none⟩),.int .i64 x,.int .i64 room,.slice (some ⟨w.heap.size,0,none⟩) 0 room,.func (.func gf) #[] lb,.int .i64 x,undef,undef,undef,undef,undef],defers:=[] }) ?assign ?body ?done
 case hI =>
  intro s X Y row hs hg hr
  refine ⟨hs.1.kept hg (fun e => by have:=hr _ e.symm;omega),hs.2.1.kept hg (.inr (fun e => by have:=hr _ e.symm;simp at this;omega)),hs.2.2.grown hg hs.2.2.size (fun r e => by have:=hr r e;omega)⟩
 case assign =>
  intro l x X K hK
  gi_wp2
  exact hK
 case body =>
  rintro l' pre x X ⟨hb,hr,hB⟩ hlt hsz
  have hcb:=hb.cell
  gi_wp2_with (gi_at_builtin;refine wpListIn_append_fits _ rfl _ _ 58 rfl w.heap.size 3 i0 1 Tryz.underlying58 hi hz1 w.heap.size pre.length room _ rfl (hr.alloc _) ⟨X.heap.size,0,none⟩ 1 1 [.int .i64 x] rfl rfl (cell_one_new _ _ _) (by simp [Value.oneCell']) (by omega) ?_;intro w3 hown3 hgrow3;obtain ⟨hv1,hv2,hr2,hk2,hb2⟩:=hb.appended (by decide) hr hB.size (by omega) hown3 hgrow3;have hc3:=hv1.cell;have hf3:=hv1.frozen)
  have hl:(pre ++ [x]).length = pre.length + 1:=by simp
  have hm:(pre ++ [x]).map (Value.int .i64) = pre.map (Value.int .i64) ++ [.int .i64 x]:=by simp
  refine ⟨⟨hb2.mono hn₀,fun r h1 h2 => ?_⟩,by rw [hl];exact hv2,by rw [hl,hm];exact hr2,hB.trans hb2⟩
  have e1:=(grownBy_setCell' w3 w1.heap.size (.slice (some ⟨w.heap.size,0,none⟩) (pre.length + 1) room)).block r (Nat.lt_of_lt_of_le (by simp;omega) hgrow3.size) (by simp;omega)
  have e2:=hgrow3.block r (by simp;omega) (by simp;omega)
  exact e1.trans (e2.trans (Below.heap_alloc _ _ _ (by omega)))
 case done =>
  rintro ys X rfl ⟨hb,hr,hB⟩ hK
  have hcb:=hb.cell
  gi_wp2
  refine ⟨by simp,.inl ⟨_,_,rfl,run_takeDeferred hK,?_⟩⟩
  exact ⟨_,results_tmp rfl _ _ _,_,rfl,ownsRow_putObj hr _ hK rfl,hB.trans (belowK_b (w:=w) (Nat.le_refl _) X w2.heap.size _ _ (by omega) hK rfl rfl)⟩
theorem egDec:∀ args w,(callFunc 155 args).run Tryz.prog w = .ok (.enter 155 args) w:=enters_of Tryz.func155 (by kernel_rfl) rfl
theorem egPrep:∀ args w,(callFunc 153 args).run Tryz.prog w = .ok (.enter 153 args) w:=enters_of Tryz.func153 (by kernel_rfl) rfl
theorem owns_base {X:World} {b b':Nat} {e:TypeId} {size:Nat} {v:Value} {m:Nat} {xs:List Value} (h:X.ownsRow b e size v m xs) (hb:b' ≤ b):X.ownsRow b' e size v m xs:=by
 refine ⟨h.1,?_⟩
 rcases h.2 with h2 | ⟨g,cap,cur,hv,hg,rest⟩
 ·exact .inl h2
 ·exact .inr ⟨g,cap,cur,hv,Nat.le_trans hb hg,rest⟩
theorem BytesAt.len {n₀:Nat} {X:World} {v:Value} {l:List UInt8} (h:BytesAt n₀ X v l):∃ p cap,v = .slice p l.length cap ∧ v.oneCell' = true:=by
 rcases h.cases with ⟨rfl,p,cap,rfl⟩ | ⟨bk,off,cap,rfl,_⟩
 ·exact ⟨_,_,rfl,rfl⟩
 ·exact ⟨_,_,rfl,rfl⟩
theorem prep_seq (n:Nat) (v:Value) (bs:List UInt8) (w:World) (hn:1 ≤ n) (hB:BytesAt w.heap.size w v bs) (hT:Tabs w.heap.size w) :
  SeqX Fence.wide n Tryz.prog 153 #[.pointer (some ⟨w.heap.size + 1,0,none⟩)] (fun x:Int => #[.int .i64 x]) (w.heap.size + 2) (fun ys => ys = prep (ipts bs)) bs.length 4
   ((w.alloc (.cells #[v] 22)).alloc (.cells #[.func (.func 155) #[] #[.pointer (some ⟨w.heap.size,0,none⟩)]] 181)):=by
 have hb:Below w.heap.size w ((w.alloc (.cells #[v] 22)).alloc (.cells #[.func (.func 155) #[] #[.pointer (some ⟨w.heap.size,0,none⟩)]] 181)):=((Below.refl _ w).alloc (Nat.le_refl _) _).alloc (by simp) _
 have b1:=(Boxed.new w 22 v).alloc (.cells #[.func (.func 155) #[] #[.pointer (some ⟨w.heap.size,0,none⟩)]] 181)
 have b2:=Boxed.new (w.alloc (.cells #[v] 22)) 181 (.func (.func 155) #[] #[.pointer (some ⟨w.heap.size,0,none⟩)])
 rw [World.size_alloc] at b2
 refine prepared_seq n (w.heap.size + 1) (w.heap.size + 2) bs.length 155 _ (ipts bs) _ hn (by omega) (by simp) egDec ?_ b2.cell
 exact (decoded_seq (n - 1) w.heap.size (w.heap.size + 2) v bs _ (by omega) (by simp) b1.cell ((hB.below hb).mono (by omega)) ((hT.below hb).mono (by omega))).more (ipts_length_le bs)
set_option maxHeartbeats 1000000 in
theorem prepare_any (v:Value) (bs:List UInt8) (w:World) (hB:BytesAt w.heap.size w v bs) (hT:Tabs w.heap.size w) (hl:bs.length * 8 ≤ 281474976710656) :
  Calls Tryz.prog 67 #[v] w fun e w' => ∃ v',e = .returned v' ∧ w'.ownsRow w.heap.size 3 1 v' (prep (ipts bs)).length ((prep (ipts bs)).map (Value.int .i64)) ∧ Below w.heap.size w w':=by
 have hseq:=prep_seq 1 v bs w (Nat.le_refl _) hB hT
 obtain ⟨p,cap,rfl,h1⟩:=hB.len
 have hg:=gather_in 2 (w.heap.size + 2) bs.length 4 153 _ _ _ (by omega) (by simp) hl egPrep hseq
 have hb:Below w.heap.size w ((w.alloc (.cells #[.slice p bs.length cap] 22)).alloc (.cells #[.func (.func 155) #[] #[.pointer (some ⟨w.heap.size,0,none⟩)]] 181)):=((Below.refl _ w).alloc (Nat.le_refl _) _).alloc (by simp) _
 have hp:=prepared_in 0 155 #[.pointer (some ⟨w.heap.size,0,none⟩)] (w.alloc (.cells #[.slice p bs.length cap] 22))
 rw [World.size_alloc] at hp
 have hd:=decoded_in 0 (.slice p bs.length cap) w h1
 clear hseq
 go_enter Tryz.func67,Tryz.ntmps67
 go_wp2_with fail
 refine (callsIn_wide.1 hd).mono ?_
 rintro e w' ⟨rfl,rfl⟩
 go_wp2_with fail
 refine (callsIn_wide.1 hp).mono ?_
 rintro e w' ⟨rfl,rfl⟩
 go_wp2_with fail
 refine (callsIn_wide.1 hg).mono ?_
 rintro e w' ⟨v',rfl,hr,hb'⟩
 go_wp2
 go_ret
 exact ⟨_,rfl,owns_base hr hb.size,hb.trans (hb'.mono hb.size)⟩
end Go.Proofs.YtagbjmocjaaioaaGreatDoor

/- The document's example: text.Prepare of the bytes 13, 10, 65 is 10, 65 (the laws' own 'alive'), in every world that holds the library's tables. -/
namespace Go.Proofs.YtagbjmocjaaioaaGreatDoor
open Go Go.RowKit Go.Shelf
theorem owns_cells {X:World} {b:Nat} {e:TypeId} {v:Value} {m:Nat} {xs:List Value} (h:X.ownsRow b e 1 v m xs) :
  (v = .slice none 0 0 ∧ m = 0 ∧ xs = []) ∨ ∃ g cap,v = .slice (some ⟨g,0,none⟩) m cap ∧ m ≤ cap ∧ cap ≤ maxLen ∧ b ≤ g ∧ g < X.heap.size ∧ ∀ j u,xs[j]? = some u → X.cell? ⟨g,0 + j,none⟩ = some u:=by
 rcases h.2 with ⟨hv,hm⟩ | ⟨g,cap,cur,hv,hg,hb,h1,h2,h3,h4⟩
 ·exact .inl ⟨hv,hm,List.length_eq_zero_iff.1 (by rw [h.1,hm])⟩
 ·refine .inr ⟨g,cap,hv,h1,h2,hg,(Array.getElem?_eq_some_iff.1 hb).1,fun j u hj => ?_⟩
  rw [← h4,Nat.mul_one,List.getElem?_take] at hj
  split at hj
  ·simp only [World.cell?,hb,Nat.zero_add]
   simpa using hj
  ·cases hj
theorem cell_of_block {X:World} {g:Nat} {cur:Array Value} {t:TypeId} {fz:Nat × Nat} (h:X.heap[g]? = some (.cells cur t fz)) (j:Nat):X.cell? ⟨g,j,none⟩ = cur[j]?:=by
 unfold World.cell?
 rw [h]
 rfl
end Go.Proofs.YtagbjmocjaaioaaGreatDoor
