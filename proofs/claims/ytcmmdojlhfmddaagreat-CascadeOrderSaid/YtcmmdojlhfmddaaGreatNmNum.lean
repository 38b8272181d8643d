/- num.Of at every string: cutSign, strings.Cut at a point, isNumber; what the world must hold. -/
import Derived.Test.YtcmmdojlhfmddaaGreatNmDig
import Derived.Below
import Derived.Shelf.Abstract
import Derived.Lib.ItoaLen
namespace Go.Proofs.YtcmmdojlhfmddaaGreat.Nm
open Go Go.RowKit Go.Shelf
def PowAt (_n₀:Nat) (_w:World):Prop:=True
theorem PowAt.mono {n₀ n₁:Nat} {w:World} (h:PowAt n₀ w) (_hn:n₀ ≤ n₁):PowAt n₁ w:=h
def below (l:List UInt8):Bool:=l.head? == some 45
def lessOne (c:UInt8) (l:List UInt8):List UInt8:=if l.head? == some c then l.tail else l
def bare (l:List UInt8):List UInt8:=if below l then l.tail else lessOne 43 l
def numA (l:List UInt8):List UInt8:=(bare l).takeWhile (· != 46)
def numB (l:List UInt8):List UInt8:=((bare l).dropWhile (· != 46)).tail
def numP (l:List UInt8):Bool:=(bare l).any (· == 46)
def isNum (a b:List UInt8) (p:Bool):Bool:=allDig a && allDig b && (if p then !b.isEmpty else !a.isEmpty)
def numV (l:List UInt8):Int:=grown (grown 0 (numA l)) (thou (numB l))
def numOk (l:List UInt8):Bool:=isNum (numA l) (numB l) (numP l)
def numN (l:List UInt8):Int:=if numOk l then (if below l then -numV l else numV l) else 0
theorem grown_bounds:∀ (l:List UInt8) (n:Int),0 ≤ n → n ≤ 2147483647 → allDig l = true → 0 ≤ grown n l ∧ grown n l ≤ 2147483647
 | [],n,h0,h1,_ => ⟨h0,h1⟩
 | c :: l,n,h0,h1,hd => by
  have hd':dig c = true ∧ allDig l = true:=by simpa [allDig] using hd
  exact grown_bounds l (grow1 n c) (grow1_ge h0 (dig_iff.1 hd'.1).1) (grow1_le n c) hd'.2
theorem thou_dig {l:List UInt8} (h:allDig l = true):allDig (thou l) = true:=by
 unfold thou allDig at *
 rw [List.all_append,Bool.and_eq_true]
 refine ⟨List.all_eq_true.2 fun c hc => List.all_eq_true.1 h c (List.mem_of_mem_take hc),List.all_eq_true.2 fun c hc => ?_⟩
 have:=List.mem_of_mem_drop hc
 simp at this
 subst this
 decide
end Go.Proofs.YtcmmdojlhfmddaaGreat.Nm

/- Plain facts on numbers' texts: digits and what they are as a number, a text of digits with a point or without, and that the text of a number comes back. -/
namespace Go.Proofs.YtcmmdojlhfmddaaGreat.Nm
open Go
theorem allDig_append (a b:List UInt8):allDig (a ++ b) = (allDig a && allDig b):=List.all_append
theorem grown_append (n:Int) (a b:List UInt8):grown n (a ++ b) = grown (grown n a) b:=List.foldl_append
theorem grown_three {n:Int} {x y z:UInt8} (h0:0 ≤ n) (hx:dig x = true) (hy:dig y = true) (hz:dig z = true) :
  grown n [x,y,z] = min (1000 * n + 100 * ((x.toNat:Int) - 48) + 10 * ((y.toNat:Int) - 48) + ((z.toNat:Int) - 48)) 2147483647:=by
 have hx:=dig_iff.1 hx
 have hy:=dig_iff.1 hy
 have hz:=dig_iff.1 hz
 show grow1 (grow1 (grow1 n x) y) z = _
 unfold grow1 capI
 repeat' split
 all_goals omega
theorem dig_not {c:UInt8} (h:dig c = true):(c == 45) = false ∧ (c == 43) = false ∧ (c == 46) = false:=by
 have h:=dig_iff.1 h
 refine ⟨?_,?_,?_⟩ <;> (rw [beq_eq_false_iff_ne];rintro rfl;revert h;decide)
theorem take_dig:∀ (a b:List UInt8),allDig a = true → (a ++ 46 :: b).takeWhile (· != 46) = a ∧ (a ++ 46 :: b).dropWhile (· != 46) = 46 :: b
 | [],_,_ => ⟨rfl,rfl⟩
 | c :: a,b,h => by
  have h':dig c = true ∧ allDig a = true:=by simpa [allDig] using h
  obtain ⟨_,_,h3⟩:=dig_not h'.1
  obtain ⟨i1,i2⟩:=take_dig a b h'.2
  have h4:(c != 46) = true:=by rw [bne,h3];rfl
  exact ⟨by rw [List.cons_append,List.takeWhile_cons,if_pos h4,i1],by rw [List.cons_append,List.dropWhile_cons,if_pos h4,i2]⟩
theorem take_all:∀ (a:List UInt8),allDig a = true → a.takeWhile (· != 46) = a ∧ a.dropWhile (· != 46) = [] ∧ a.any (· == 46) = false
 | [],_ => ⟨rfl,rfl,rfl⟩
 | c :: a,h => by
  have h':dig c = true ∧ allDig a = true:=by simpa [allDig] using h
  obtain ⟨_,_,h3⟩:=dig_not h'.1
  obtain ⟨i1,i2,i3⟩:=take_all a h'.2
  have h4:(c != 46) = true:=by rw [bne,h3];rfl
  exact ⟨by rw [List.takeWhile_cons,if_pos h4,i1],by rw [List.dropWhile_cons,if_pos h4,i2],by rw [List.any_cons,h3,i3];rfl⟩
theorem num_dot {l a b:List UInt8} (hl:bare l = a ++ 46 :: b) (ha:allDig a = true) (hb:allDig b = true) (hne:b ≠ []) :
  numOk l = true ∧ numV l = grown (grown 0 a) (thou b):=by
 obtain ⟨e1,e2⟩:=take_dig a b ha
 unfold numOk numV numA numB numP
 rw [hl,e1,e2]
 refine ⟨?_,rfl⟩
 simp [isNum,ha,hb,hne]
theorem num_flat {l a:List UInt8} (hl:bare l = a) (ha:allDig a = true) (hne:a ≠ []) :
  numOk l = true ∧ numV l = grown (grown 0 a) [48,48,48]:=by
 obtain ⟨e1,e2,e3⟩:=take_all a ha
 unfold numOk numV numA numB numP
 rw [hl,e1,e2,e3]
 refine ⟨?_,rfl⟩
 simp [isNum,ha,hne]
 rfl
end Go.Proofs.YtcmmdojlhfmddaaGreat.Nm

/- The document's own Cap, Add, Times, Digits and NumText, at every integer. -/
namespace Go.Proofs.YtcmmdojlhfmddaaGreat.Nm
open Go Go.RowKit Go.Shelf
set_option maxHeartbeats 400000 in
theorem refCap_any (c:Int) (w:World):Calls Tryz.prog 77 #[.int .i64 c] w fun e w' => e = .returned (.int .i64 (capI c)) ∧ w' = w:=by
 by_cases h1:c < -2147483647
 ·rw [capI_low h1]
  go_enter Tryz.func77,Tryz.ntmps77
  go_wp2
  go_ret
  exact ⟨rfl,rfl⟩
 ·by_cases h2:2147483647 < c
  ·rw [capI_high h2]
   go_enter Tryz.func77,Tryz.ntmps77
   go_wp2
   go_ret
   exact ⟨rfl,rfl⟩
  ·rw [capI_in (by omega) (by omega)]
   go_enter Tryz.func77,Tryz.ntmps77
   go_wp2
   all_goals go_ret
   all_goals first | exact ⟨rfl,rfl⟩ | (rw [show c = -2147483647 by omega];exact ⟨rfl,rfl⟩)
end Go.Proofs.YtcmmdojlhfmddaaGreat.Nm

/- Where the document's own reader of a number stands, digit by digit, and what it comes to. -/
namespace Go.Proofs.YtcmmdojlhfmddaaGreat.Nm
open Go Go.RowKit
theorem dig_true {c:UInt8} (h:48 ≤ c.toNat ∧ c.toNat ≤ 57):dig c = true:=dig_iff.2 h
theorem dig_false {c:UInt8} (h:¬ (48 ≤ c.toNat ∧ c.toNat ≤ 57)):dig c = false:=by
 cases e:dig c with
 | false => rfl
 | true => exact absurd (dig_iff.1 e) h
theorem digit_any (c:UInt8) (w:World):Calls Tryz.prog 52 #[.int .i64 c.toNat] w fun e w' => e = .returned (.bool (dig c)) ∧ w' = w:=by
 by_cases h1:48 ≤ c.toNat
 ·have g1:(48:Int) ≤ (c.toNat:Int):=by omega
  by_cases h2:c.toNat ≤ 57
  ·have g2:decide ((c.toNat:Int) ≤ 57) = true:=decide_eq_true (by omega)
   rw [dig_true ⟨h1,h2⟩]
   clear h1 h2
   go_enter Tryz.func52,Tryz.ntmps52
   go_wp2
   go_ret
   exact ⟨rfl,rfl⟩
  ·have g2:decide ((c.toNat:Int) ≤ 57) = false:=decide_eq_false (by omega)
   rw [dig_false (by omega)]
   clear h1 h2
   go_enter Tryz.func52,Tryz.ntmps52
   go_wp2
   go_ret
   exact ⟨rfl,rfl⟩
 ·have g1:¬ (48:Int) ≤ (c.toNat:Int):=by omega
  rw [dig_false (by omega)]
  go_enter Tryz.func52,Tryz.ntmps52
  go_wp2
  go_ret
  exact ⟨rfl,rfl⟩
def frStep (p:Int × Int) (c:UInt8):Int × Int:=(p.1 + p.2 * ((c.toNat:Int) - 48),p.2 / 10)
def frs (l:List UInt8):Int × Int:=l.foldl frStep (0,100)
theorem frs_next (l:List UInt8) (c:UInt8):frs (l ++ [c]) = ((frs l).1 + (frs l).2 * ((c.toNat:Int) - 48),(frs l).2 / 10):=by
 unfold frs
 rw [List.foldl_append]
 rfl
theorem fr_still (v:Int):∀ l:List UInt8,l.foldl frStep (v,0) = (v,0)
 | [] => rfl
 | c :: l => by
  rw [List.foldl_cons,show frStep (v,0) c = (v,0) by simp [frStep]]
  exact fr_still v l
theorem frs_four (a b c:UInt8) (l:List UInt8):frs (a :: b :: c :: l) = (100 * ((a.toNat:Int) - 48) + 10 * ((b.toNat:Int) - 48) + ((c.toNat:Int) - 48),0):=by
 unfold frs
 rw [List.foldl_cons,List.foldl_cons,List.foldl_cons]
 have e:frStep (frStep (frStep (0,100) a) b) c = (100 * ((a.toNat:Int) - 48) + 10 * ((b.toNat:Int) - 48) + ((c.toNat:Int) - 48),0):=by
  unfold frStep
  rw [show ((100:Int) / 10) = 10 from rfl,show ((10:Int) / 10) = 1 from rfl,show ((1:Int) / 10) = 0 from rfl]
  simp only [Prod.mk.injEq,and_true]
  omega
 rw [e,fr_still]
theorem frs_one (a:UInt8):frs [a] = (100 * ((a.toNat:Int) - 48),10):=by
 show (0 + 100 * ((a.toNat:Int) - 48),(100:Int) / 10) = _
 rw [Int.zero_add]
 rfl
theorem frs_two (a b:UInt8):frs [a,b] = (100 * ((a.toNat:Int) - 48) + 10 * ((b.toNat:Int) - 48),1):=by
 rw [show [a,b] = [a] ++ [b] from rfl,frs_next,frs_one]
 rfl
theorem allDig_cons {c:UInt8} {l:List UInt8} (h:allDig (c :: l) = true):(48 ≤ c.toNat ∧ c.toNat ≤ 57) ∧ allDig l = true:=by
 have h:dig c = true ∧ allDig l = true:=by simpa [allDig] using h
 exact ⟨dig_iff.1 h.1,h.2⟩
theorem frs_bounds:∀ (l:List UInt8),allDig l = true → 0 ≤ (frs l).1 ∧ (frs l).1 ≤ 999 ∧ ((frs l).2 = 100 ∨ (frs l).2 = 10 ∨ (frs l).2 = 1 ∨ (frs l).2 = 0)
 | [],_ => ⟨by decide,by decide,.inl rfl⟩
 | [a],h => by
  obtain ⟨ha,_⟩:=allDig_cons h
  rw [frs_one]
  exact ⟨by simp only;omega,by simp only;omega,.inr (.inl rfl)⟩
 | [a,b],h => by
  obtain ⟨ha,h⟩:=allDig_cons h
  obtain ⟨hb,_⟩:=allDig_cons h
  rw [frs_two]
  exact ⟨by simp only;omega,by simp only;omega,.inr (.inr (.inl rfl))⟩
 | a :: b :: c :: l,h => by
  obtain ⟨ha,h⟩:=allDig_cons h
  obtain ⟨hb,h⟩:=allDig_cons h
  obtain ⟨hc,_⟩:=allDig_cons h
  rw [frs_four]
  exact ⟨by simp only;omega,by simp only;omega,.inr (.inr (.inr rfl))⟩
theorem grown_frs {n:Int} (h0:0 ≤ n):∀ (l:List UInt8),allDig l = true → grown n (thou l) = min (1000 * n + (frs l).1) 2147483647
 | [],_ => by
  show grown n [48,48,48] = _
  rw [grown_three h0 (by decide) (by decide) (by decide),show ((48:UInt8).toNat:Int) = 48 from rfl,show (frs []).1 = 0 from rfl]
  omega
 | [a],h => by
  obtain ⟨ha,_⟩:=allDig_cons h
  show grown n [a,48,48] = _
  rw [grown_three h0 (dig_true ha) (by decide) (by decide),show ((48:UInt8).toNat:Int) = 48 from rfl,frs_one]
  simp only
  omega
 | [a,b],h => by
  obtain ⟨ha,h⟩:=allDig_cons h
  obtain ⟨hb,_⟩:=allDig_cons h
  show grown n [a,b,48] = _
  rw [grown_three h0 (dig_true ha) (dig_true hb) (by decide),show ((48:UInt8).toNat:Int) = 48 from rfl,frs_two]
  simp only
  omega
 | a :: b :: c :: l,h => by
  obtain ⟨ha,h⟩:=allDig_cons h
  obtain ⟨hb,h⟩:=allDig_cons h
  obtain ⟨hc,_⟩:=allDig_cons h
  have e:thou (a :: b :: c :: l) = [a,b,c]:=by
   unfold thou
   rw [Nat.min_eq_right (by simp)]
   rfl
  rw [e,grown_three h0 (dig_true ha) (dig_true hb) (dig_true hc),frs_four]
  simp only
  omega
/-! ### what is no number's text -/
theorem not_dig_mem {c:UInt8} {l:List UInt8} (h:dig c = false) (hm:c ∈ l):allDig l = false:=by
 cases e:allDig l with
 | false => rfl
 | true => rw [List.all_eq_true.1 e c hm] at h;cases h
theorem no_other {l d t:List UInt8} {c:UInt8} (hl:bare l = d ++ c :: t) (hd:allDig d = true) (hc:dig c = false) (hp:c ≠ 46):numOk l = false:=by
 have hm:c ∈ numA l:=by
  unfold numA
  rw [hl,List.takeWhile_append_of_pos (fun x hx => by
   obtain ⟨_,_,h3⟩:=dig_not (List.all_eq_true.1 hd x hx)
   rw [bne,h3];rfl),List.takeWhile_cons,if_pos (by simp [hp])]
  simp
 unfold numOk isNum
 rw [not_dig_mem hc hm]
 rfl
theorem no_behind {l d e t:List UInt8} {c:UInt8} (hl:bare l = d ++ 46 :: (e ++ c :: t)) (hd:allDig d = true) (hc:dig c = false):numOk l = false:=by
 obtain ⟨_,e2⟩:=take_dig d (e ++ c :: t) hd
 have hm:c ∈ numB l:=by
  unfold numB
  rw [hl,e2]
  simp
 unfold numOk isNum
 rw [not_dig_mem hc hm,Bool.and_false]
 rfl
theorem no_digit {l:List UInt8} (hl:bare l = []):numOk l = false:=by
 unfold numOk numA numB numP
 rw [hl]
 rfl
theorem no_end {l d:List UInt8} (hl:bare l = d ++ [46]) (hd:allDig d = true):numOk l = false:=by
 obtain ⟨e1,e2⟩:=take_dig d [] hd
 unfold numOk numA numB numP
 rw [hl,e1,e2]
 simp [isNum]
theorem yes_flat {l d:List UInt8} (hl:bare l = d) (hd:allDig d = true) (hne:d ≠ []):numOk l = true ∧ numN l = capI (if below l then -(grown 0 d * 1000) else grown 0 d * 1000):=by
 obtain ⟨k1,k2⟩:=num_flat hl hd hne
 have hb:=grown_bounds d 0 (by decide) (by decide) hd
 have e:grown (grown 0 d) [48,48,48] = min (1000 * grown 0 d) 2147483647:=by
  rw [grown_three hb.1 (by decide) (by decide) (by decide),show ((48:UInt8).toNat:Int) = 48 from rfl]
  omega
 refine ⟨k1,?_⟩
 unfold numN
 rw [if_pos k1,k2,e]
 unfold capI
 repeat' split
 all_goals omega
theorem yes_dot {l d b:List UInt8} (hl:bare l = d ++ 46 :: b) (hd:allDig d = true) (hb:allDig b = true) (hne:b ≠ []):numOk l = true ∧ numN l = capI (if below l then -(grown 0 d * 1000 + (frs b).1) else grown 0 d * 1000 + (frs b).1):=by
 obtain ⟨k1,k2⟩:=num_dot hl hd hb hne
 have h0:=grown_bounds d 0 (by decide) (by decide) hd
 have h1:=frs_bounds b hb
 refine ⟨k1,?_⟩
 unfold numN
 rw [if_pos k1,k2,grown_frs h0.1 b hb]
 unfold capI
 repeat' split
 all_goals omega
theorem at_cons {s:ByteArray} {o:Nat} {d t:List UInt8} {c:UInt8} (h:s.data.toList.drop o = d ++ c :: t):o + d.length < s.size ∧ s.get! (o + d.length) = c:=by
 have e:s.data.toList[o + d.length]? = some c:=by
  rw [← List.getElem?_drop,h,List.getElem?_append_right (Nat.le_refl _),Nat.sub_self]
  rfl
 have hlt:o + d.length < s.size:=by
  rw [← len_list]
  exact (List.getElem?_eq_some_iff.1 e).1
 exact ⟨hlt,Option.some.inj ((at_list s _ hlt).symm.trans e)⟩
theorem at_end {s:ByteArray} {o:Nat} {d:List UInt8} (ho:o ≤ s.size) (h:s.data.toList.drop o = d):o + d.length = s.size:=by
 have:=congrArg List.length h
 rw [List.length_drop,len_list] at this
 omega
theorem grow1_if {x:Int} {c:UInt8} (h0:0 ≤ x) (hc:48 ≤ c.toNat):grow1 x c = if 2147483647 < x * 10 + c.toNat - 48 then 2147483647 else x * 10 + c.toNat - 48:=by
 unfold grow1 capI
 repeat' split
 all_goals omega
theorem allDig_next {d:List UInt8} {c:UInt8} (h:allDig d = true) (hc:dig c = true):allDig (d ++ [c]) = true:=by
 rw [allDig_append,h]
 simp [allDig,hc]
theorem grown_snoc (d:List UInt8) (c:UInt8):grown 0 (d ++ [c]) = grow1 (grown 0 d) c:=by rw [grown_append];rfl
/-! ### where the reader stands -/
def St1 (s:ByteArray) (o k:Nat) (x:Int) (h:Nat) (t:List UInt8):Prop:=∃ d,d.length = h ∧ k = o + h ∧ s.data.toList.drop o = d ++ t ∧ allDig d = true ∧ x = grown 0 d
def St2 (s:ByteArray) (o k:Nat) (y u:Int) (b:Nat) (t:List UInt8):Prop:=∃ d e,e.length = b ∧ k = o + d.length + 1 + b ∧ s.data.toList.drop o = d ++ 46 :: (e ++ t) ∧ allDig d = true ∧ allDig e = true ∧ y = grown 0 d * 1000 + (frs e).1 ∧ u = (frs e).2
theorem St1.start (s:ByteArray) (o:Nat):St1 s o o 0 0 (s.data.toList.drop o):=⟨[],rfl,rfl,rfl,rfl,rfl⟩
theorem St1.bounds {s:ByteArray} {o k h:Nat} {x:Int} {t:List UInt8} (S:St1 s o k x h t):0 ≤ x ∧ x ≤ 2147483647:=by
 obtain ⟨d,_,_,_,hd,rfl⟩:=S
 exact grown_bounds d 0 (by decide) (by decide) hd
theorem St1.le {s:ByteArray} {o k h:Nat} {x:Int} {t:List UInt8} (S:St1 s o k x h t):h ≤ k:=by
 obtain ⟨d,_,rfl,_⟩:=S
 omega
theorem St2.le {s:ByteArray} {o k b:Nat} {y u:Int} {t:List UInt8} (S:St2 s o k y u b t):b ≤ k:=by
 obtain ⟨d,e,_,rfl,_⟩:=S
 omega
theorem St1.cons {s:ByteArray} {o k h:Nat} {x:Int} {c:UInt8} {t:List UInt8} (S:St1 s o k x h (c :: t)):k < s.size ∧ s.get! k = c:=by
 obtain ⟨d,rfl,rfl,hdt,_,_⟩:=S
 exact at_cons hdt
theorem St1.nil {s:ByteArray} {o k h:Nat} {x:Int} (S:St1 s o k x h []) (ho:o ≤ s.size):k = s.size:=by
 obtain ⟨d,rfl,rfl,hdt,_,_⟩:=S
 exact at_end ho (by rw [hdt,List.append_nil])
theorem St1.next {s:ByteArray} {o k h:Nat} {x:Int} {c:UInt8} {t:List UInt8} (S:St1 s o k x h (c :: t)) (hc:dig c = true):St1 s o (k + 1) (grow1 x c) (h + 1) t:=by
 obtain ⟨d,rfl,rfl,hdt,hd,rfl⟩:=S
 exact ⟨d ++ [c],by simp,by omega,by rw [hdt,List.append_assoc];rfl,allDig_next hd hc,(grown_snoc d c).symm⟩
theorem St1.none {s:ByteArray} {o k:Nat} {x:Int} (S:St1 s o k x 0 []) (hb:bare s.data.toList = s.data.toList.drop o):numOk s.data.toList = false:=by
 obtain ⟨d,h0,_,hdt,_,_⟩:=S
 have:d = []:=List.length_eq_zero_iff.1 h0
 subst this
 exact no_digit (hb.trans hdt)
theorem St1.some {s:ByteArray} {o k h:Nat} {x:Int} (S:St1 s o k x h []) (hb:bare s.data.toList = s.data.toList.drop o) (hne:h ≠ 0) :
  numOk s.data.toList = true ∧ numN s.data.toList = capI (if below s.data.toList then -(x * 1000) else x * 1000):=by
 obtain ⟨d,rfl,_,hdt,hd,rfl⟩:=S
 rw [List.append_nil] at hdt
 exact yes_flat (hb.trans hdt) hd (fun e => hne (by rw [e];rfl))
theorem St1.other {s:ByteArray} {o k h:Nat} {x:Int} {c:UInt8} {t:List UInt8} (S:St1 s o k x h (c :: t)) (hb:bare s.data.toList = s.data.toList.drop o) (hc:dig c = false) (hp:c ≠ 46):numOk s.data.toList = false:=by
 obtain ⟨d,_,_,hdt,hd,_⟩:=S
 exact no_other (hb.trans hdt) hd hc hp
theorem St2.start {s:ByteArray} {o k h:Nat} {x:Int} {t:List UInt8} (S:St1 s o k x h (46 :: t)):St2 s o (k + 1) (x * 1000) 100 0 t:=by
 obtain ⟨d,rfl,rfl,hdt,hd,rfl⟩:=S
 exact ⟨d,[],rfl,rfl,hdt,hd,rfl,by rw [show (frs []).1 = 0 from rfl,Int.add_zero],rfl⟩
theorem St2.bounds {s:ByteArray} {o k b:Nat} {y u:Int} {t:List UInt8} (S:St2 s o k y u b t):0 ≤ y ∧ y ≤ 2147483647999 ∧ 0 ≤ u ∧ u ≤ 100:=by
 obtain ⟨d,e,_,_,_,hd,he,rfl,rfl⟩:=S
 have h1:=grown_bounds d 0 (by decide) (by decide) hd
 have h2:=frs_bounds e he
 omega
theorem St2.mul {s:ByteArray} {o k b:Nat} {y u:Int} {t:List UInt8} (S:St2 s o k y u b t) {c:UInt8} (hc:dig c = true):0 ≤ u * ((c.toNat:Int) - 48) ∧ u * ((c.toNat:Int) - 48) ≤ 900:=by
 obtain ⟨d,e,_,_,_,_,he,_,rfl⟩:=S
 have hc:=dig_iff.1 hc
 obtain ⟨_,_,h | h | h | h⟩:=frs_bounds e he <;> rw [h] <;> omega
theorem St2.cons {s:ByteArray} {o k b:Nat} {y u:Int} {c:UInt8} {t:List UInt8} (S:St2 s o k y u b (c :: t)):k < s.size ∧ s.get! k = c:=by
 obtain ⟨d,e,rfl,rfl,hdt,_⟩:=S
 have h:s.data.toList.drop o = (d ++ 46 :: e) ++ c :: t:=by rw [hdt,List.append_assoc];rfl
 have:=at_cons h
 rw [List.length_append,List.length_cons,show o + (d.length + (e.length + 1)) = o + d.length + 1 + e.length by omega] at this
 exact this
theorem St2.nil {s:ByteArray} {o k b:Nat} {y u:Int} (S:St2 s o k y u b []) (ho:o ≤ s.size):k = s.size:=by
 obtain ⟨d,e,rfl,rfl,hdt,_⟩:=S
 have:=at_end ho hdt
 rw [List.append_nil,List.length_append,List.length_cons] at this
 omega
theorem St2.next {s:ByteArray} {o k b:Nat} {y u:Int} {c:UInt8} {t:List UInt8} (S:St2 s o k y u b (c :: t)) (hc:dig c = true):St2 s o (k + 1) (y + u * ((c.toNat:Int) - 48)) (u / 10) (b + 1) t:=by
 obtain ⟨d,e,rfl,rfl,hdt,hd,he,rfl,rfl⟩:=S
 refine ⟨d,e ++ [c],by simp,by omega,by rw [hdt,List.append_assoc];rfl,hd,allDig_next he hc,?_,?_⟩
 ·rw [frs_next]
  simp only
  omega
 ·rw [frs_next]
theorem St2.none {s:ByteArray} {o k:Nat} {y u:Int} (S:St2 s o k y u 0 []) (hb:bare s.data.toList = s.data.toList.drop o):numOk s.data.toList = false:=by
 obtain ⟨d,e,h0,_,hdt,hd,_⟩:=S
 have:e = []:=List.length_eq_zero_iff.1 h0
 subst this
 exact no_end (hb.trans hdt) hd
theorem St2.some {s:ByteArray} {o k b:Nat} {y u:Int} (S:St2 s o k y u b []) (hb:bare s.data.toList = s.data.toList.drop o) (hne:b ≠ 0) :
  numOk s.data.toList = true ∧ numN s.data.toList = capI (if below s.data.toList then -y else y):=by
 obtain ⟨d,e,rfl,_,hdt,hd,he,rfl,_⟩:=S
 rw [List.append_nil] at hdt
 exact yes_dot (hb.trans hdt) hd he (fun e => hne (by rw [e];rfl))
theorem St2.other {s:ByteArray} {o k b:Nat} {y u:Int} {c:UInt8} {t:List UInt8} (S:St2 s o k y u b (c :: t)) (hb:bare s.data.toList = s.data.toList.drop o) (hc:dig c = false):numOk s.data.toList = false:=by
 obtain ⟨d,e,_,_,hdt,hd,_⟩:=S
 exact no_behind (hb.trans hdt) hd hc
end Go.Proofs.YtcmmdojlhfmddaaGreat.Nm

/- The document's own Num at every string that begins with no sign: it is what num.Of tells. -/
set_option maxRecDepth 100000
namespace Go.Proofs.YtcmmdojlhfmddaaGreat.Nm
open Go Go.RowKit
set_option maxHeartbeats 4000000 in
theorem refNum_bare (s:ByteArray) (w:World) (hs:s.size ≤ 4000000) (c0:UInt8) (r:List UInt8) (hr:s.data.toList = c0 :: r) (hp:c0 ≠ 43) (hm:c0 ≠ 45) :
  Calls Tryz.prog 56 #[.string s] w fun e w' => e = .returned (.tuple #[.int .i64 (numN s.data.toList),.bool (numOk s.data.toList)]) ∧ w' = w:=by
 have hbel:below s.data.toList = false:=by rw [hr];simp [below,hm]
 have hbare:bare s.data.toList = s.data.toList.drop 0:=by unfold bare lessOne;rw [hbel,hr];simp [hp]
 obtain ⟨ho',hg0⟩:=at_cons (s:=s) (o:=0) (d:=[]) (c:=c0) (t:=r) hr
 have ho1:1 ≤ s.size:=by simp only [List.length_nil] at ho';omega
 have ho:0 ≤ s.size:=Nat.zero_le _
 have hget0:=get_at s 0 ho1
 rw [show s.get! 0 = c0 from hg0] at hget0
 have hpi:((c0.toNat:Int) == 43) = false:=beq_eq_false_iff_ne.2 fun h => hp (UInt8.toNat_inj.1 (show c0.toNat = 43 by omega))
 have hmi:((c0.toNat:Int) == 45) = false:=beq_eq_false_iff_ne.2 fun h => hm (UInt8.toNat_inj.1 (show c0.toNat = 45 by omega))
 clear hr hg0 ho' hp hm
 generalize hv:numN s.data.toList = v
 generalize hok:numOk s.data.toList = ok
 go_enter Tryz.func56,Tryz.ntmps56
 go_wp2
 go_loopw [4,6,7] (fun i n hh wr => ∃ (k:Nat) (x:Int) (h:Nat) (t:List UInt8),i = .int .i64 k ∧ n = .int .i64 x ∧ hh = .int .i64 h ∧ St1 s 0 k x h t ∧ wr = w) (fun i _ _ _ => s.size - (intOf i).toNat)
 case atStart => exact ⟨0,0,0,s.data.toList.drop 0,rfl,rfl,rfl,St1.start s 0,rfl⟩
 case round =>
  obtain ⟨k,x,h,t,rfl,rfl,rfl,S,rfl⟩:=hrel
  obtain ⟨x0,x1⟩:=S.bounds
  cases t with
  | nil =>
   have hke:=S.nil ho
   have hki:(k:Int) = (s.size:Int):=by omega
   by_cases hh0:h = 0
   ·subst hh0
    have hno:=S.none hbare
    have hv0:numN s.data.toList = 0:=by simp [numN,hno]
    rw [hok] at hno
    rw [hv] at hv0
    subst hno hv0
    clear hok hv hbare hbel S
    go_wp2
    go_ret2
    exact ⟨rfl,rfl⟩
   ·have hhi:¬ (h:Int) = 0:=by omega
    obtain ⟨y1,y2⟩:=S.some hbare hh0
    rw [hbel] at y2
    simp only [Bool.false_eq_true,if_false] at y2
    rw [hok] at y1
    rw [hv] at y2
    have hcap:=refCap_any (x * 1000)
    rw [← y2] at hcap
    subst y1
    clear hok hv y2 hbare hbel S
    go_wp2_with fail
    refine (hcap _).mono ?_
    rintro e w' ⟨rfl,rfl⟩
    go_wp2
    go_ret2
    exact ⟨rfl,rfl⟩
  | cons c t =>
   obtain ⟨hlt,hgc⟩:=S.cons
   have hget:=get_at s k hlt
   rw [hgc] at hget
   have hdc:=digit_any c
   have hcl:=c.toNat_lt
   clear hgc
   cases hc:dig c with
   | true =>
    rw [hc] at hdc
    have N:=S.next hc
    have hle:=S.le
    obtain ⟨c1,c2⟩:=dig_iff.1 hc
    rw [grow1_if x0 c1] at N
    by_cases hbig:2147483647 < x * 10 + c.toNat - 48
    ·rw [if_pos hbig] at N
     clear hok hv hbare hbel S hc
     go_wp2_with fail
     refine (hdc _).mono ?_
     rintro e w' ⟨rfl,rfl⟩
     go_wp2
     exact ⟨⟨k + 1,_,h + 1,t,by go_num,rfl,by go_num,N,by trivial⟩,by simp [intOf];omega⟩
    ·rw [if_neg hbig] at N
     clear hok hv hbare hbel S hc
     go_wp2_with fail
     refine (hdc _).mono ?_
     rintro e w' ⟨rfl,rfl⟩
     go_wp2
     exact ⟨⟨k + 1,_,h + 1,t,by go_num,rfl,by go_num,N,by trivial⟩,by simp [intOf];omega⟩
   | false =>
    rw [hc] at hdc
    have hki:¬ (k:Int) = (s.size:Int):=by omega
    by_cases hp:c = 46
    ·subst hp
     have N:=St2.start S
     clear S hc
     go_wp2_with fail
     refine (hdc _).mono ?_
     rintro e w' ⟨rfl,rfl⟩
     go_wp2
     go_loopw [4,6,8,10] (fun i n bh un wr => ∃ (k:Nat) (y:Int) (b:Nat) (u:Int) (t:List UInt8),i = .int .i64 k ∧ n = .int .i64 y ∧ bh = .int .i64 b ∧ un = .int .i64 u ∧ St2 s 0 k y u b t ∧ wr = w') (fun i _ _ _ _ => s.size - (intOf i).toNat)
     case atStart => exact ⟨k + 1,_,0,_,t,by go_num,rfl,rfl,rfl,N,rfl⟩
     case round =>
      clear N hdc hget hlt hki
      obtain ⟨k,y,b,u,t,rfl,rfl,rfl,rfl,S,rfl⟩:=hrel
      obtain ⟨y0,y1,u0,u1⟩:=S.bounds
      cases t with
      | nil =>
       have hke:=S.nil ho
       have hki:(k:Int) = (s.size:Int):=by omega
       by_cases hb0:b = 0
       ·subst hb0
        have hno:=S.none hbare
        have hv0:numN s.data.toList = 0:=by simp [numN,hno]
        rw [hok] at hno
        rw [hv] at hv0
        subst hno hv0
        clear hok hv hbare hbel S
        go_wp2
        go_ret2
        exact ⟨rfl,rfl⟩
       ·have hbi:¬ (b:Int) = 0:=by omega
        obtain ⟨y1,y2⟩:=S.some hbare hb0
        rw [hbel] at y2
        simp only [Bool.false_eq_true,if_false] at y2
        rw [hok] at y1
        rw [hv] at y2
        have hcap:=refCap_any (y)
        rw [← y2] at hcap
        subst y1
        clear hok hv y2 hbare hbel S
        go_wp2_with fail
        refine (hcap _).mono ?_
        rintro e w' ⟨rfl,rfl⟩
        go_wp2
        go_ret2
        exact ⟨rfl,rfl⟩
      | cons c t =>
       obtain ⟨hlt,hgc⟩:=S.cons
       have hget:=get_at s k hlt
       rw [hgc] at hget
       have hdc:=digit_any c
       have hcl:=c.toNat_lt
       clear hgc
       cases hc:dig c with
       | true =>
        rw [hc] at hdc
        have N:=S.next hc
        have hle:=S.le
        obtain ⟨m0,m1⟩:=S.mul hc
        obtain ⟨c1,c2⟩:=dig_iff.1 hc
        clear hok hv hbare hbel S hc
        go_wp2_with fail
        refine (hdc _).mono ?_
        rintro e w' ⟨rfl,rfl⟩
        go_wp2
        exact ⟨⟨k + 1,_,b + 1,_,t,by go_num,rfl,by go_num,rfl,N,by trivial⟩,by simp [intOf];omega⟩
       | false =>
        rw [hc] at hdc
        have hki:¬ (k:Int) = (s.size:Int):=by omega
        have hno:=S.other hbare hc
        have hv0:numN s.data.toList = 0:=by simp [numN,hno]
        rw [hok] at hno
        rw [hv] at hv0
        subst hno hv0
        clear hok hv hbare hbel S hc
        go_wp2_with fail
        refine (hdc _).mono ?_
        rintro e w' ⟨rfl,rfl⟩
        go_wp2
        go_ret2
        exact ⟨rfl,rfl⟩
    ·have hpi:¬ (c.toNat:Int) = 46:=fun h => hp (UInt8.toNat_inj.1 (show c.toNat = 46 by omega))
     have hno:=S.other hbare hc hp
     have hv0:numN s.data.toList = 0:=by simp [numN,hno]
     rw [hok] at hno
     rw [hv] at hv0
     subst hno hv0
     clear hok hv hbare hbel S hc hp
     go_wp2_with fail
     refine (hdc _).mono ?_
     rintro e w' ⟨rfl,rfl⟩
     go_wp2
     go_ret2
     exact ⟨rfl,rfl⟩
end Go.Proofs.YtcmmdojlhfmddaaGreat.Nm

/- The document's own Num at every string that begins with a plus: it is what num.Of tells. -/
set_option maxRecDepth 100000
namespace Go.Proofs.YtcmmdojlhfmddaaGreat.Nm
open Go Go.RowKit
set_option maxHeartbeats 4000000 in
theorem refNum_plus (s:ByteArray) (w:World) (hs:s.size ≤ 4000000) (r:List UInt8) (hr:s.data.toList = 43 :: r) :
  Calls Tryz.prog 56 #[.string s] w fun e w' => e = .returned (.tuple #[.int .i64 (numN s.data.toList),.bool (numOk s.data.toList)]) ∧ w' = w:=by
 have hbel:below s.data.toList = false:=by rw [hr];rfl
 have hbare:bare s.data.toList = s.data.toList.drop 1:=by rw [hr];rfl
 obtain ⟨ho',hg0⟩:=at_cons (s:=s) (o:=0) (d:=[]) (c:=43) (t:=r) hr
 have ho:1 ≤ s.size:=by simp only [List.length_nil] at ho';omega
 have hget0:=get_at s 0 ho
 rw [show s.get! 0 = 43 from hg0] at hget0
 clear hr hg0 ho'
 generalize hv:numN s.data.toList = v
 generalize hok:numOk s.data.toList = ok
 go_enter Tryz.func56,Tryz.ntmps56
 go_wp2
 go_loopw [4,6,7] (fun i n hh wr => ∃ (k:Nat) (x:Int) (h:Nat) (t:List UInt8),i = .int .i64 k ∧ n = .int .i64 x ∧ hh = .int .i64 h ∧ St1 s 1 k x h t ∧ wr = w) (fun i _ _ _ => s.size - (intOf i).toNat)
 case atStart => exact ⟨1,0,0,s.data.toList.drop 1,rfl,rfl,rfl,St1.start s 1,rfl⟩
 case round =>
  obtain ⟨k,x,h,t,rfl,rfl,rfl,S,rfl⟩:=hrel
  obtain ⟨x0,x1⟩:=S.bounds
  cases t with
  | nil =>
   have hke:=S.nil ho
   have hki:(k:Int) = (s.size:Int):=by omega
   by_cases hh0:h = 0
   ·subst hh0
    have hno:=S.none hbare
    have hv0:numN s.data.toList = 0:=by simp [numN,hno]
    rw [hok] at hno
    rw [hv] at hv0
    subst hno hv0
    clear hok hv hbare hbel S
    go_wp2
    go_ret2
    exact ⟨rfl,rfl⟩
   ·have hhi:¬ (h:Int) = 0:=by omega
    obtain ⟨y1,y2⟩:=S.some hbare hh0
    rw [hbel] at y2
    simp only [Bool.false_eq_true,if_false] at y2
    rw [hok] at y1
    rw [hv] at y2
    have hcap:=refCap_any (x * 1000)
    rw [← y2] at hcap
    subst y1
    clear hok hv y2 hbare hbel S
    go_wp2_with fail
    refine (hcap _).mono ?_
    rintro e w' ⟨rfl,rfl⟩
    go_wp2
    go_ret2
    exact ⟨rfl,rfl⟩
  | cons c t =>
   obtain ⟨hlt,hgc⟩:=S.cons
   have hget:=get_at s k hlt
   rw [hgc] at hget
   have hdc:=digit_any c
   have hcl:=c.toNat_lt
   clear hgc
   cases hc:dig c with
   | true =>
    rw [hc] at hdc
    have N:=S.next hc
    have hle:=S.le
    obtain ⟨c1,c2⟩:=dig_iff.1 hc
    rw [grow1_if x0 c1] at N
    by_cases hbig:2147483647 < x * 10 + c.toNat - 48
    ·rw [if_pos hbig] at N
     clear hok hv hbare hbel S hc
     go_wp2_with fail
     refine (hdc _).mono ?_
     rintro e w' ⟨rfl,rfl⟩
     go_wp2
     exact ⟨⟨k + 1,_,h + 1,t,by go_num,rfl,by go_num,N,by trivial⟩,by simp [intOf];omega⟩
    ·rw [if_neg hbig] at N
     clear hok hv hbare hbel S hc
     go_wp2_with fail
     refine (hdc _).mono ?_
     rintro e w' ⟨rfl,rfl⟩
     go_wp2
     exact ⟨⟨k + 1,_,h + 1,t,by go_num,rfl,by go_num,N,by trivial⟩,by simp [intOf];omega⟩
   | false =>
    rw [hc] at hdc
    have hki:¬ (k:Int) = (s.size:Int):=by omega
    by_cases hp:c = 46
    ·subst hp
     have N:=St2.start S
     clear S hc
     go_wp2_with fail
     refine (hdc _).mono ?_
     rintro e w' ⟨rfl,rfl⟩
     go_wp2
     go_loopw [4,6,8,10] (fun i n bh un wr => ∃ (k:Nat) (y:Int) (b:Nat) (u:Int) (t:List UInt8),i = .int .i64 k ∧ n = .int .i64 y ∧ bh = .int .i64 b ∧ un = .int .i64 u ∧ St2 s 1 k y u b t ∧ wr = w') (fun i _ _ _ _ => s.size - (intOf i).toNat)
     case atStart => exact ⟨k + 1,_,0,_,t,by go_num,rfl,rfl,rfl,N,rfl⟩
     case round =>
      clear N hdc hget hlt hki
      obtain ⟨k,y,b,u,t,rfl,rfl,rfl,rfl,S,rfl⟩:=hrel
      obtain ⟨y0,y1,u0,u1⟩:=S.bounds
      cases t with
      | nil =>
       have hke:=S.nil ho
       have hki:(k:Int) = (s.size:Int):=by omega
       by_cases hb0:b = 0
       ·subst hb0
        have hno:=S.none hbare
        have hv0:numN s.data.toList = 0:=by simp [numN,hno]
        rw [hok] at hno
        rw [hv] at hv0
        subst hno hv0
        clear hok hv hbare hbel S
        go_wp2
        go_ret2
        exact ⟨rfl,rfl⟩
       ·have hbi:¬ (b:Int) = 0:=by omega
        obtain ⟨y1,y2⟩:=S.some hbare hb0
        rw [hbel] at y2
        simp only [Bool.false_eq_true,if_false] at y2
        rw [hok] at y1
        rw [hv] at y2
        have hcap:=refCap_any (y)
        rw [← y2] at hcap
        subst y1
        clear hok hv y2 hbare hbel S
        go_wp2_with fail
        refine (hcap _).mono ?_
        rintro e w' ⟨rfl,rfl⟩
        go_wp2
        go_ret2
        exact ⟨rfl,rfl⟩
      | cons c t =>
       obtain ⟨hlt,hgc⟩:=S.cons
       have hget:=get_at s k hlt
       rw [hgc] at hget
       have hdc:=digit_any c
       have hcl:=c.toNat_lt
       clear hgc
       cases hc:dig c with
       | true =>
        rw [hc] at hdc
        have N:=S.next hc
        have hle:=S.le
        obtain ⟨m0,m1⟩:=S.mul hc
        obtain ⟨c1,c2⟩:=dig_iff.1 hc
        clear hok hv hbare hbel S hc
        go_wp2_with fail
        refine (hdc _).mono ?_
        rintro e w' ⟨rfl,rfl⟩
        go_wp2
        exact ⟨⟨k + 1,_,b + 1,_,t,by go_num,rfl,by go_num,rfl,N,by trivial⟩,by simp [intOf];omega⟩
       | false =>
        rw [hc] at hdc
        have hki:¬ (k:Int) = (s.size:Int):=by omega
        have hno:=S.other hbare hc
        have hv0:numN s.data.toList = 0:=by simp [numN,hno]
        rw [hok] at hno
        rw [hv] at hv0
        subst hno hv0
        clear hok hv hbare hbel S hc
        go_wp2_with fail
        refine (hdc _).mono ?_
        rintro e w' ⟨rfl,rfl⟩
        go_wp2
        go_ret2
        exact ⟨rfl,rfl⟩
    ·have hpi:¬ (c.toNat:Int) = 46:=fun h => hp (UInt8.toNat_inj.1 (show c.toNat = 46 by omega))
     have hno:=S.other hbare hc hp
     have hv0:numN s.data.toList = 0:=by simp [numN,hno]
     rw [hok] at hno
     rw [hv] at hv0
     subst hno hv0
     clear hok hv hbare hbel S hc hp
     go_wp2_with fail
     refine (hdc _).mono ?_
     rintro e w' ⟨rfl,rfl⟩
     go_wp2
     go_ret2
     exact ⟨rfl,rfl⟩
end Go.Proofs.YtcmmdojlhfmddaaGreat.Nm

/- The document's own Num at every string that begins with a minus: it is what num.Of tells. -/
set_option maxRecDepth 100000
namespace Go.Proofs.YtcmmdojlhfmddaaGreat.Nm
open Go Go.RowKit
set_option maxHeartbeats 4000000 in
theorem refNum_less (s:ByteArray) (w:World) (hs:s.size ≤ 4000000) (r:List UInt8) (hr:s.data.toList = 45 :: r) :
  Calls Tryz.prog 56 #[.string s] w fun e w' => e = .returned (.tuple #[.int .i64 (numN s.data.toList),.bool (numOk s.data.toList)]) ∧ w' = w:=by
 have hbel:below s.data.toList = true:=by rw [hr];rfl
 have hbare:bare s.data.toList = s.data.toList.drop 1:=by rw [hr];rfl
 obtain ⟨ho',hg0⟩:=at_cons (s:=s) (o:=0) (d:=[]) (c:=45) (t:=r) hr
 have ho:1 ≤ s.size:=by simp only [List.length_nil] at ho';omega
 have hget0:=get_at s 0 ho
 rw [show s.get! 0 = 45 from hg0] at hget0
 clear hr hg0 ho'
 generalize hv:numN s.data.toList = v
 generalize hok:numOk s.data.toList = ok
 go_enter Tryz.func56,Tryz.ntmps56
 go_wp2
 go_loopw [4,6,7] (fun i n hh wr => ∃ (k:Nat) (x:Int) (h:Nat) (t:List UInt8),i = .int .i64 k ∧ n = .int .i64 x ∧ hh = .int .i64 h ∧ St1 s 1 k x h t ∧ wr = w) (fun i _ _ _ => s.size - (intOf i).toNat)
 case atStart => exact ⟨1,0,0,s.data.toList.drop 1,rfl,rfl,rfl,St1.start s 1,rfl⟩
 case round =>
  obtain ⟨k,x,h,t,rfl,rfl,rfl,S,rfl⟩:=hrel
  obtain ⟨x0,x1⟩:=S.bounds
  cases t with
  | nil =>
   have hke:=S.nil ho
   have hki:(k:Int) = (s.size:Int):=by omega
   by_cases hh0:h = 0
   ·subst hh0
    have hno:=S.none hbare
    have hv0:numN s.data.toList = 0:=by simp [numN,hno]
    rw [hok] at hno
    rw [hv] at hv0
    subst hno hv0
    clear hok hv hbare hbel S
    go_wp2
    go_ret2
    exact ⟨rfl,rfl⟩
   ·have hhi:¬ (h:Int) = 0:=by omega
    obtain ⟨y1,y2⟩:=S.some hbare hh0
    rw [hbel] at y2
    simp only [if_true] at y2
    rw [hok] at y1
    rw [hv] at y2
    have hcap:=refCap_any (-(x * 1000))
    rw [← y2] at hcap
    subst y1
    clear hok hv y2 hbare hbel S
    go_wp2_with fail
    refine (hcap _).mono ?_
    rintro e w' ⟨rfl,rfl⟩
    go_wp2
    go_ret2
    exact ⟨rfl,rfl⟩
  | cons c t =>
   obtain ⟨hlt,hgc⟩:=S.cons
   have hget:=get_at s k hlt
   rw [hgc] at hget
   have hdc:=digit_any c
   have hcl:=c.toNat_lt
   clear hgc
   cases hc:dig c with
   | true =>
    rw [hc] at hdc
    have N:=S.next hc
    have hle:=S.le
    obtain ⟨c1,c2⟩:=dig_iff.1 hc
    rw [grow1_if x0 c1] at N
    by_cases hbig:2147483647 < x * 10 + c.toNat - 48
    ·rw [if_pos hbig] at N
     clear hok hv hbare hbel S hc
     go_wp2_with fail
     refine (hdc _).mono ?_
     rintro e w' ⟨rfl,rfl⟩
     go_wp2
     exact ⟨⟨k + 1,_,h + 1,t,by go_num,rfl,by go_num,N,by trivial⟩,by simp [intOf];omega⟩
    ·rw [if_neg hbig] at N
     clear hok hv hbare hbel S hc
     go_wp2_with fail
     refine (hdc _).mono ?_
     rintro e w' ⟨rfl,rfl⟩
     go_wp2
     exact ⟨⟨k + 1,_,h + 1,t,by go_num,rfl,by go_num,N,by trivial⟩,by simp [intOf];omega⟩
   | false =>
    rw [hc] at hdc
    have hki:¬ (k:Int) = (s.size:Int):=by omega
    by_cases hp:c = 46
    ·subst hp
     have N:=St2.start S
     clear S hc
     go_wp2_with fail
     refine (hdc _).mono ?_
     rintro e w' ⟨rfl,rfl⟩
     go_wp2
     go_loopw [4,6,8,10] (fun i n bh un wr => ∃ (k:Nat) (y:Int) (b:Nat) (u:Int) (t:List UInt8),i = .int .i64 k ∧ n = .int .i64 y ∧ bh = .int .i64 b ∧ un = .int .i64 u ∧ St2 s 1 k y u b t ∧ wr = w') (fun i _ _ _ _ => s.size - (intOf i).toNat)
     case atStart => exact ⟨k + 1,_,0,_,t,by go_num,rfl,rfl,rfl,N,rfl⟩
     case round =>
      clear N hdc hget hlt hki
      obtain ⟨k,y,b,u,t,rfl,rfl,rfl,rfl,S,rfl⟩:=hrel
      obtain ⟨y0,y1,u0,u1⟩:=S.bounds
      cases t with
      | nil =>
       have hke:=S.nil ho
       have hki:(k:Int) = (s.size:Int):=by omega
       by_cases hb0:b = 0
       ·subst hb0
        have hno:=S.none hbare
        have hv0:numN s.data.toList = 0:=by simp [numN,hno]
        rw [hok] at hno
        rw [hv] at hv0
        subst hno hv0
        clear hok hv hbare hbel S
        go_wp2
        go_ret2
        exact ⟨rfl,rfl⟩
       ·have hbi:¬ (b:Int) = 0:=by omega
        obtain ⟨y1,y2⟩:=S.some hbare hb0
        rw [hbel] at y2
        simp only [if_true] at y2
        rw [hok] at y1
        rw [hv] at y2
        have hcap:=refCap_any (-(y))
        rw [← y2] at hcap
        subst y1
        clear hok hv y2 hbare hbel S
        go_wp2_with fail
        refine (hcap _).mono ?_
        rintro e w' ⟨rfl,rfl⟩
        go_wp2
        go_ret2
        exact ⟨rfl,rfl⟩
      | cons c t =>
       obtain ⟨hlt,hgc⟩:=S.cons
       have hget:=get_at s k hlt
       rw [hgc] at hget
       have hdc:=digit_any c
       have hcl:=c.toNat_lt
       clear hgc
       cases hc:dig c with
       | true =>
        rw [hc] at hdc
        have N:=S.next hc
        have hle:=S.le
        obtain ⟨m0,m1⟩:=S.mul hc
        obtain ⟨c1,c2⟩:=dig_iff.1 hc
        clear hok hv hbare hbel S hc
        go_wp2_with fail
        refine (hdc _).mono ?_
        rintro e w' ⟨rfl,rfl⟩
        go_wp2
        exact ⟨⟨k + 1,_,b + 1,_,t,by go_num,rfl,by go_num,rfl,N,by trivial⟩,by simp [intOf];omega⟩
       | false =>
        rw [hc] at hdc
        have hki:¬ (k:Int) = (s.size:Int):=by omega
        have hno:=S.other hbare hc
        have hv0:numN s.data.toList = 0:=by simp [numN,hno]
        rw [hok] at hno
        rw [hv] at hv0
        subst hno hv0
        clear hok hv hbare hbel S hc
        go_wp2_with fail
        refine (hdc _).mono ?_
        rintro e w' ⟨rfl,rfl⟩
        go_wp2
        go_ret2
        exact ⟨rfl,rfl⟩
    ·have hpi:¬ (c.toNat:Int) = 46:=fun h => hp (UInt8.toNat_inj.1 (show c.toNat = 46 by omega))
     have hno:=S.other hbare hc hp
     have hv0:numN s.data.toList = 0:=by simp [numN,hno]
     rw [hok] at hno
     rw [hv] at hv0
     subst hno hv0
     clear hok hv hbare hbel S hc hp
     go_wp2_with fail
     refine (hdc _).mono ?_
     rintro e w' ⟨rfl,rfl⟩
     go_wp2
     go_ret2
     exact ⟨rfl,rfl⟩
end Go.Proofs.YtcmmdojlhfmddaaGreat.Nm

/- The document's own Num at every string of no bytes: it is what num.Of tells. -/
set_option maxRecDepth 100000
namespace Go.Proofs.YtcmmdojlhfmddaaGreat.Nm
open Go Go.RowKit
set_option maxHeartbeats 4000000 in
theorem refNum_none (s:ByteArray) (w:World) (_hs:s.size ≤ 4000000) (hr:s.data.toList = []) :
  Calls Tryz.prog 56 #[.string s] w fun e w' => e = .returned (.tuple #[.int .i64 (numN s.data.toList),.bool (numOk s.data.toList)]) ∧ w' = w:=by
 have hbel:below s.data.toList = false:=by rw [hr];rfl
 have hbare:bare s.data.toList = s.data.toList.drop 0:=by rw [hr];rfl
 have ho:0 ≤ s.size:=Nat.zero_le _
 have hz:s.size = 0:=by rw [← len_list,hr];rfl
 have hzi:(s.size:Int) = 0:=by omega
 clear hr
 generalize hv:numN s.data.toList = v
 generalize hok:numOk s.data.toList = ok
 go_enter Tryz.func56,Tryz.ntmps56
 go_wp2
 go_loopw [4,6,7] (fun i n hh wr => ∃ (k:Nat) (x:Int) (h:Nat) (t:List UInt8),i = .int .i64 k ∧ n = .int .i64 x ∧ hh = .int .i64 h ∧ St1 s 0 k x h t ∧ wr = w) (fun i _ _ _ => s.size - (intOf i).toNat)
 case atStart => exact ⟨0,0,0,s.data.toList.drop 0,rfl,rfl,rfl,St1.start s 0,rfl⟩
 case round =>
  obtain ⟨k,x,h,t,rfl,rfl,rfl,S,rfl⟩:=hrel
  obtain ⟨x0,x1⟩:=S.bounds
  cases t with
  | nil =>
   have hke:=S.nil ho
   have hki:(k:Int) = (s.size:Int):=by omega
   by_cases hh0:h = 0
   ·subst hh0
    have hno:=S.none hbare
    have hv0:numN s.data.toList = 0:=by simp [numN,hno]
    rw [hok] at hno
    rw [hv] at hv0
    subst hno hv0
    clear hok hv hbare hbel S
    go_wp2
    go_ret2
    exact ⟨rfl,rfl⟩
   ·have hhi:¬ (h:Int) = 0:=by omega
    obtain ⟨y1,y2⟩:=S.some hbare hh0
    rw [hbel] at y2
    simp only [Bool.false_eq_true,if_false] at y2
    rw [hok] at y1
    rw [hv] at y2
    have hcap:=refCap_any (x * 1000)
    rw [← y2] at hcap
    subst y1
    clear hok hv y2 hbare hbel S
    go_wp2_with fail
    refine (hcap _).mono ?_
    rintro e w' ⟨rfl,rfl⟩
    go_wp2
    go_ret2
    exact ⟨rfl,rfl⟩
  | cons c t =>
   obtain ⟨hlt,_⟩:=S.cons
   omega
end Go.Proofs.YtcmmdojlhfmddaaGreat.Nm

/- The document's own Num at every string that is not too long. -/
namespace Go.Proofs.YtcmmdojlhfmddaaGreat.Nm
open Go Go.RowKit
theorem refNum_long (s:ByteArray) (w:World) (hs:s.size ≤ 4000000) :
  Calls Tryz.prog 56 #[.string s] w fun e w' => e = .returned (.tuple #[.int .i64 (numN s.data.toList),.bool (numOk s.data.toList)]) ∧ w' = w:=by
 cases h:s.data.toList with
 | nil => rw [← h];exact refNum_none s w hs h
 | cons c r =>
  by_cases h1:c = 45
  ·subst h1
   rw [← h]
   exact refNum_less s w hs r h
  ·by_cases h2:c = 43
   ·subst h2
    rw [← h]
    exact refNum_plus s w hs r h
   ·rw [← h]
    exact refNum_bare s w hs c r h h2 h1
end Go.Proofs.YtcmmdojlhfmddaaGreat.Nm
