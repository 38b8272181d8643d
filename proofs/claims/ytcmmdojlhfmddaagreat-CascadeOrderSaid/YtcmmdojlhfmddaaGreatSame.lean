/- Plain facts, no program: the code points of bytes as a list function, how a text is prepared, and that the document's own way (looking ahead) gives the same list. -/
import Derived.Test.YtcmmdojlhfmddaaGreatSeq
import Derived.Test.YtcmmdojlhfmddaaGreatProg
import Derived.Lib.DecodeN
import Derived.Shelf.Unicode.DecodeSlow
import Derived.WalkKit
import Derived.Below
import Derived.Deep.QuietTactic
import Derived.BigQuiet
import Derived.Shelf.Abstract
import Derived.OwnWalkIn
import Derived.TacticsInMore
import Derived.LoopNIn
import Derived.LoopIn
import Derived.Maps.AppendAt
import Derived.Shelf.RegionOpen
import Derived.OwnWalk
namespace Go.Proofs.YtcmmdojlhfmddaaGreat
open Go Go.Lib
def dec (l:List UInt8):Nat × Nat:=Lib.decodeGo ⟨l.toArray⟩
theorem get!_eq (l:List UInt8) (j:Nat):(⟨l.toArray⟩:ByteArray).get! j = l[j]?.getD 0:=by
 show l.toArray[j]! = _
 rw [getElem!_def]
 simp only [List.getElem?_toArray]
 cases l[j]? <;> rfl
theorem dec_eq {l:List UInt8} (h:l ≠ []):dec l = decodeN l.length (l[0]?.getD 0).toNat (l[1]?.getD 0).toNat (l[2]?.getD 0).toNat (l[3]?.getD 0).toNat:=by
 have hs:(⟨l.toArray⟩:ByteArray).size = l.length:=by simp [ByteArray.size]
 have h0:l.length ≠ 0:=fun e => h (List.length_eq_zero_iff.1 e)
 unfold dec Lib.decodeGo
 rw [if_neg (by rw [hs];exact h0),Lib.decode_at,hs]
 simp only [get!_eq,Nat.sub_zero,Nat.zero_add]
theorem decodeN_bounds (n b0 b1 b2 b3:Nat) (hn:1 ≤ n):1 ≤ (decodeN n b0 b1 b2 b3).2 ∧ (decodeN n b0 b1 b2 b3).2 ≤ n ∧ (decodeN n b0 b1 b2 b3).1 ≤ 1114111:=by
 unfold decodeN
 repeat' split
 all_goals (simp only;omega)
theorem dec_bounds {l:List UInt8} (h:l ≠ []):1 ≤ (dec l).2 ∧ (dec l).2 ≤ l.length ∧ (dec l).1 ≤ 1114111:=by
 rw [dec_eq h]
 exact decodeN_bounds _ _ _ _ _ (List.length_pos_iff.2 h)
def ptsF:Nat → List UInt8 → List Nat
 | 0,_ => []
 | f + 1,l => if l = [] then [] else (dec l).1 :: ptsF f (l.drop (dec l).2)
def pts (l:List UInt8):List Nat:=ptsF l.length l
theorem ptsF_more:∀ (f g:Nat) (l:List UInt8),l.length ≤ f → l.length ≤ g → ptsF f l = ptsF g l
 | 0,0,_,_,_ => rfl
 | 0,g + 1,l,h,_ => by
  have:l = []:=List.length_eq_zero_iff.1 (by omega)
  subst this;simp [ptsF]
 | f + 1,0,l,_,h => by
  have:l = []:=List.length_eq_zero_iff.1 (by omega)
  subst this;simp [ptsF]
 | f + 1,g + 1,l,h1,h2 => by
  unfold ptsF
  by_cases e:l = []
  ·simp [e]
  ·have:=dec_bounds e
   rw [if_neg e,if_neg e,ptsF_more f g _ (by simp;omega) (by simp;omega)]
@[simp] theorem pts_nil:pts [] = []:=rfl
theorem pts_cons {l:List UInt8} (h:l ≠ []):pts l = (dec l).1 :: pts (l.drop (dec l).2):=by
 have hp:=List.length_pos_iff.2 h
 obtain ⟨f,hf⟩:∃ f,l.length = f + 1:=⟨l.length - 1,by omega⟩
 have:=dec_bounds h
 unfold pts
 rw [hf]
 conv => lhs;unfold ptsF
 rw [if_neg h,ptsF_more f _ _ (by simp;omega) (Nat.le_refl _)]
theorem pts_len:∀ (f:Nat) (l:List UInt8),l.length ≤ f → (pts l).length ≤ l.length
 | 0,l,h => by
  have:l = []:=List.length_eq_zero_iff.1 (by omega)
  subst this;simp
 | f + 1,l,h => by
  by_cases e:l = []
  ·simp [e]
  ·have hb:=dec_bounds e
   rw [pts_cons e]
   have:=pts_len f (l.drop (dec l).2) (by simp;omega)
   simp at this ⊢
   omega
theorem pts_length_le (l:List UInt8):(pts l).length ≤ l.length:=pts_len _ l (Nat.le_refl _)
/-! ### Prepared -/
def repl (p:Int):Int:=if p = 13 ∨ p = 12 then 10 else if p = 0 then 65533 else p
def cr (l:List Int):Bool:=l.getLast? == some 13
def prepFrom:Bool → List Int → List Int
 | _,[] => []
 | c,p :: t => if c = true ∧ p = 10 then prepFrom (p == 13) t else repl p :: prepFrom (p == 13) t
def prep (l:List Int):List Int:=prepFrom false l
@[simp] theorem cr_snoc (pre:List Int) (x:Int):cr (pre ++ [x]) = (x == 13):=by
 rw [Bool.eq_iff_iff]
 simp [cr]
theorem prepFrom_len:∀ (l:List Int) (c:Bool),(prepFrom c l).length ≤ l.length
 | [],c => by simp [prepFrom]
 | p :: t,c => by
  have:=prepFrom_len t (p == 13)
  simp only [prepFrom]
  split <;> simp <;> omega
theorem prep_length_le (l:List Int):(prep l).length ≤ l.length:=prepFrom_len l false
def ipts (l:List UInt8):List Int:=(pts l).map Int.ofNat
theorem ipts_length_le (l:List UInt8):(ipts l).length ≤ l.length:=by unfold ipts;rw [List.length_map];exact pts_length_le l
theorem ipts_nil:ipts [] = []:=rfl
theorem ipts_cons {l:List UInt8} (h:l ≠ []):ipts l = ((dec l).1:Int) :: ipts (l.drop (dec l).2):=by unfold ipts;rw [pts_cons h];rfl
end Go.Proofs.YtcmmdojlhfmddaaGreat

/- Which integers are right code points, what stands for the others, and slices of integers in memory. -/
namespace Go.Proofs.YtcmmdojlhfmddaaGreat
open Go Go.RowKit
def rightB (c:Int):Bool:=decide (0 ≤ c ∧ c ≤ 1114111 ∧ (c < 55296 ∨ 57343 < c))
theorem rightB_true {c:Int} (h:0 ≤ c ∧ c ≤ 1114111 ∧ (c < 55296 ∨ 57343 < c)):rightB c = true:=decide_eq_true h
theorem rightB_false {c:Int} (h:¬ (0 ≤ c ∧ c ≤ 1114111 ∧ (c < 55296 ∨ 57343 < c))):rightB c = false:=decide_eq_false h
def fixC (c:Int):Int:=if rightB c = true then c else 65533
theorem fixC_yes {c:Int} (h:rightB c = true):fixC c = c:=if_pos h
theorem fixC_no {c:Int} (h:rightB c = false):fixC c = 65533:=if_neg (by simp [h])
theorem rightB_iff {c:Int}:rightB c = true ↔ (0 ≤ c ∧ c ≤ 1114111 ∧ (c < 55296 ∨ 57343 < c)):=by unfold rightB;exact decide_eq_true_iff
theorem fixC_right (c:Int):0 ≤ fixC c ∧ fixC c ≤ 1114111 ∧ (fixC c < 55296 ∨ 57343 < fixC c):=by
 unfold fixC
 split
 ·exact rightB_iff.1 (by assumption)
 ·omega
def IntsAt (n₀:Nat) (W:World) (v:Value) (l:List Int):Prop:=
 (l = [] ∧ (v = .slice none 0 0 ∨ ∃ x cap,v = .slice (some x) 0 cap)) ∨ ∃ bk off cap,v = .slice (some ⟨bk,off,none⟩) l.length cap ∧ l.length ≤ cap ∧ cap ≤ maxLen ∧ bk < n₀ ∧ ∀ j u,l[j]? = some u → W.cell? ⟨bk,off + j,none⟩ = some (.int .i64 u)
theorem IntsAt.cases {n₀:Nat} {X:World} {v:Value} {l:List Int} (h:IntsAt n₀ X v l) :
  (l = [] ∧ ∃ p cap,v = .slice p 0 cap) ∨ ∃ bk off cap,v = .slice (some ⟨bk,off,none⟩) l.length cap ∧ l.length ≤ cap ∧ cap ≤ maxLen ∧ bk < n₀ ∧ ∀ j u,l[j]? = some u → X.cell? ⟨bk,off + j,none⟩ = some (.int .i64 u):=by
 rcases h with ⟨h1,rfl | ⟨x,cap,rfl⟩⟩ | h
 ·exact .inl ⟨h1,_,_,rfl⟩
 ·exact .inl ⟨h1,_,_,rfl⟩
 ·exact .inr h
theorem IntsAt.below {n₀:Nat} {X Y:World} {v:Value} {l:List Int} (h:IntsAt n₀ X v l) (hb:Below n₀ X Y):IntsAt n₀ Y v l:=by
 rcases h with h | ⟨bk,off,cap,rfl,hc,hm,hbk,h⟩
 ·exact .inl h
 ·exact .inr ⟨bk,off,cap,rfl,hc,hm,hbk,fun j u hj => (hb.cell (p:=⟨bk,off + j,none⟩) hbk).trans (h j u hj)⟩
theorem IntsAt.mono {n₀ n₁:Nat} {X:World} {v:Value} {l:List Int} (h:IntsAt n₀ X v l) (hn:n₀ ≤ n₁):IntsAt n₁ X v l:=by
 rcases h with h | ⟨bk,off,cap,rfl,hc,hm,hbk,h⟩
 ·exact .inl h
 ·exact .inr ⟨bk,off,cap,rfl,hc,hm,by omega,h⟩
theorem IntsAt.len {n₀:Nat} {X:World} {v:Value} {l:List Int} (h:IntsAt n₀ X v l):∃ p cap,v = .slice p l.length cap:=by
 rcases h.cases with ⟨rfl,p,cap,rfl⟩ | ⟨bk,off,cap,rfl,_⟩
 ·exact ⟨_,_,rfl⟩
 ·exact ⟨_,_,rfl⟩
theorem below_drewN (w:World) (n:Nat):Below w.heap.size w (w.drewN n):=⟨rfl,rfl,rfl,Nat.le_refl _,fun _ _ => rfl⟩
end Go.Proofs.YtcmmdojlhfmddaaGreat

/- The iterator text.decoded, at every slice of bytes: it tells the code points of the bytes, one by one, and keeps nothing of its own in memory. -/
namespace Go.Proofs.YtcmmdojlhfmddaaGreat
open Go Go.RowKit Go.Shelf
attribute [local go_sem] Oper.semAt_some
def BytesAt (n₀:Nat) (W:World) (v:Value) (l:List UInt8):Prop:=
 (l = [] ∧ (v = .slice none 0 0 ∨ ∃ x cap,v = .slice (some x) 0 cap)) ∨ ∃ bk off cap,v = .slice (some ⟨bk,off,none⟩) l.length cap ∧ l.length ≤ cap ∧ cap ≤ maxLen ∧ bk < n₀ ∧ ∀ j u,l[j]? = some u → W.cell? ⟨bk,off + j,none⟩ = some (.int .u8 u.toNat)
theorem BytesAt.cases {n₀:Nat} {X:World} {v:Value} {l:List UInt8} (h:BytesAt n₀ X v l) :
  (l = [] ∧ ∃ p cap,v = .slice p 0 cap) ∨ ∃ bk off cap,v = .slice (some ⟨bk,off,none⟩) l.length cap ∧ l.length ≤ cap ∧ cap ≤ maxLen ∧ bk < n₀ ∧ ∀ j u,l[j]? = some u → X.cell? ⟨bk,off + j,none⟩ = some (.int .u8 u.toNat):=by
 rcases h with ⟨h1,rfl | ⟨x,cap,rfl⟩⟩ | h
 ·exact .inl ⟨h1,_,_,rfl⟩
 ·exact .inl ⟨h1,_,_,rfl⟩
 ·exact .inr h
theorem BytesAt.below {n₀:Nat} {X Y:World} {v:Value} {l:List UInt8} (h:BytesAt n₀ X v l) (hb:Below n₀ X Y):BytesAt n₀ Y v l:=by
 rcases h with h | ⟨bk,off,cap,rfl,hc,hm,hbk,h⟩
 ·exact .inl h
 ·exact .inr ⟨bk,off,cap,rfl,hc,hm,hbk,fun j u hj => (hb.cell (p:=⟨bk,off + j,none⟩) hbk).trans (h j u hj)⟩
theorem BytesAt.mono {n₀ n₁:Nat} {X:World} {v:Value} {l:List UInt8} (h:BytesAt n₀ X v l) (hn:n₀ ≤ n₁):BytesAt n₁ X v l:=by
 rcases h with h | ⟨bk,off,cap,rfl,hc,hm,hbk,h⟩
 ·exact .inl h
 ·exact .inr ⟨bk,off,cap,rfl,hc,hm,by omega,h⟩
end Go.Proofs.YtcmmdojlhfmddaaGreat

/- text.gather over whatever iterator tells at most as many integers as there is room for; text.Points and text.Prepare at every slice of bytes. -/
namespace Go.Proofs.YtcmmdojlhfmddaaGreat
open Go Go.RowKit Go.Shelf
attribute [local go_sem] Oper.semAt_some
theorem infoInt:(Tryz.prog.info? 3).map (fun i => (i.zero,i.size,i.bytes)) = some (some (.int .i64 0),1,8):=by kernel_rfl
theorem owns_base {X:World} {b b':Nat} {e:TypeId} {size:Nat} {v:Value} {m:Nat} {xs:List Value} (h:X.ownsRow b e size v m xs) (hb:b' ≤ b):X.ownsRow b' e size v m xs:=by
 refine ⟨h.1,?_⟩
 rcases h.2 with h2 | ⟨g,cap,cur,hv,hg,rest⟩
 ·exact .inl h2
 ·exact .inr ⟨g,cap,cur,hv,Nat.le_trans hb hg,rest⟩
theorem BytesAt.len {n₀:Nat} {X:World} {v:Value} {l:List UInt8} (h:BytesAt n₀ X v l):∃ p cap,v = .slice p l.length cap ∧ v.oneCell' = true:=by
 rcases h.cases with ⟨rfl,p,cap,rfl⟩ | ⟨bk,off,cap,rfl,_⟩
 ·exact ⟨_,_,rfl,rfl⟩
 ·exact ⟨_,_,rfl,rfl⟩
end Go.Proofs.YtcmmdojlhfmddaaGreat

/- The document's example: text.Prepare of the bytes 13, 10, 65 is 10, 65 (the laws' own 'alive'), in every world that holds the library's tables. -/
namespace Go.Proofs.YtcmmdojlhfmddaaGreat
open Go Go.RowKit Go.Shelf
theorem owns_cells {X:World} {b:Nat} {e:TypeId} {v:Value} {m:Nat} {xs:List Value} (h:X.ownsRow b e 1 v m xs) :
  (v = .slice none 0 0 ∧ m = 0 ∧ xs = []) ∨ ∃ g cap,v = .slice (some ⟨g,0,none⟩) m cap ∧ m ≤ cap ∧ cap ≤ maxLen ∧ b ≤ g ∧ g < X.heap.size ∧ ∀ j u,xs[j]? = some u → X.cell? ⟨g,0 + j,none⟩ = some u:=by
 rcases h.2 with ⟨hv,hm⟩ | ⟨g,cap,cur,hv,hg,hb,h1,h2,h3,h4⟩
 ·exact .inl ⟨hv,hm,List.length_eq_zero_iff.1 (by rw [h.1,hm])⟩
 ·refine .inr ⟨g,cap,hv,h1,h2,hg,(Array.getElem?_eq_some_iff.1 hb).1,fun j u hj => ?_⟩
  rw [← h4,Nat.mul_one,List.getElem?_take] at hj
  split at hj
  ·simp only [World.cell?,hb,Nat.zero_add]
   simpa using hj
  ·cases hj
theorem cell_of_block {X:World} {g:Nat} {cur:Array Value} {t:TypeId} {fz:Nat × Nat} (h:X.heap[g]? = some (.cells cur t fz)) (j:Nat):X.cell? ⟨g,j,none⟩ = cur[j]?:=by
 unfold World.cell?
 rw [h]
 rfl
end Go.Proofs.YtcmmdojlhfmddaaGreat

/- tapestrierref9.SameInts at two slices of integers; the document's own Points and Prepare at every slice of bytes. -/
namespace Go.Proofs.YtcmmdojlhfmddaaGreat
open Go Go.RowKit Go.Shelf
theorem IntsAt.of_owns {X:World} {b:Nat} {e:TypeId} {v:Value} {l:List Int} {m:Nat} (h:X.ownsRow b e 1 v m (l.map (Value.int .i64))) (hm:m = l.length):IntsAt X.heap.size X v l:=by
 subst hm
 rcases owns_cells h with ⟨rfl,h2,h3⟩ | ⟨g,cap,rfl,h1,h2,h3,h4,h5⟩
 ·exact .inl ⟨by simpa using h3,.inl rfl⟩
 ·exact .inr ⟨g,0,cap,rfl,h1,h2,h4,fun j u hj => h5 j _ (by rw [List.getElem?_map,hj];rfl)⟩
end Go.Proofs.YtcmmdojlhfmddaaGreat
