/- The tokens of code points, in plain words over lists (chapter 4): no program in this text. 'nv': the number of a number's text. Code points are right ones (from 0 on). -/
import Derived.Test.YtagbjmocjaaioaaGreatDoorProg
import Derived.Test.YtagbjmocjaaioaaGreatDoorSame
import Derived.Test.YtagbjmocjaaioaaGreatDoorEnc
import Derived.WalkKit
import Derived.Deep.RegionWith
import Derived.Deep.DeepCutAuto
import Derived.OwnWalk
import Derived.Deep.QuietTactic
import Derived.BigQuiet
import Derived.RangeFuncNested
import Derived.Maps.AppendAt
import Derived.Maps.Range
import Derived.Laws.Rows
import Derived.Handy
import Derived.Laws.IdiomStrings
import Derived.Laws.BytesArg
namespace Go.Proofs.YtagbjmocjaaioaaGreatDoor
structure Tk where
 kind:Int
 text:List Int
 n:Int
 whole:Bool
 c:Int
deriving DecidableEq
def see (l:List Int) (k:Nat):Int:=(l[k]?).getD (-1)
def isWhite (c:Int):Bool:=c == 9 || c == 10 || c == 32
def isDigit (c:Int):Bool:=decide (48 ≤ c) && decide (c ≤ 57)
def nameStart (c:Int):Bool:=(decide (97 ≤ c) && decide (c ≤ 122)) || (decide (65 ≤ c) && decide (c ≤ 90)) || c == 95 || decide (128 ≤ c)
def namePt (c:Int):Bool:=nameStart c || isDigit c || c == 45
def escAt (l:List Int):Bool:=see l 0 == 92 && decide (0 ≤ see l 1) && see l 1 != 10
def begName (l:List Int):Bool:=if see l 0 == 45 then nameStart (see l 1) || see l 1 == 45 || escAt l.tail else nameStart (see l 0) || escAt l
def unsign (l:List Int):List Int:=if see l 0 == 43 || see l 0 == 45 then l.tail else l
def begNum (l:List Int):Bool:=isDigit (see (unsign l) 0) || (see (unsign l) 0 == 46 && isDigit (see (unsign l) 1))
def hexv (c:Int):Int:=if 48 ≤ c ∧ c ≤ 57 then c - 48 else if 97 ≤ c ∧ c ≤ 102 then c - 97 + 10 else if 65 ≤ c ∧ c ≤ 70 then c - 65 + 10 else -1
def hexRun:Nat → Int → List Int → Int × List Int
 | 0,n,l => (n,l)
 | _ + 1,n,[] => (n,[])
 | k + 1,n,c :: r => if 0 ≤ hexv c then hexRun k (n * 16 + hexv c) r else (n,c :: r)
def hexPoint (n:Int):Int:=if n = 0 ∨ 1114111 < n ∨ (55296 ≤ n ∧ n ≤ 57343) then 65533 else n
def escd (l:List Int):Int × List Int:=
 if hexv (see l 1) < 0 then (see l 1,l.drop 2)
 else (hexPoint (hexRun 6 0 l.tail).1,if isWhite (see (hexRun 6 0 l.tail).2 0) then (hexRun 6 0 l.tail).2.tail else (hexRun 6 0 l.tail).2)
def nameF:Nat → List Int → List Int × List Int
 | 0,l => ([],l)
 | _ + 1,[] => ([],[])
 | f + 1,c :: r => if namePt c then (c :: (nameF f r).1,(nameF f r).2)
  else if escAt (c :: r) then ((escd (c :: r)).1 :: (nameF f (escd (c :: r)).2).1,(nameF f (escd (c :: r)).2).2)
  else ([],c :: r)
def name (l:List Int):List Int × List Int:=nameF l.length l
def strF (q:Int):Nat → List Int → Option (List Int) × List Int
 | 0,l => (some [],l)
 | _ + 1,[] => (some [],[])
 | f + 1,c :: r => if c = q then (some [],r)
  else if c = 10 then (none,c :: r)
  else if c = 92 then
   if r = [] then (some [],[])
   else if see r 0 = 10 then strF q f r.tail
   else ((strF q f (escd (c :: r)).2).1.map ((escd (c :: r)).1 :: ·),(strF q f (escd (c :: r)).2).2)
  else ((strF q f r).1.map (c :: ·),(strF q f r).2)
def str (q:Int) (l:List Int):Option (List Int) × List Int:=strF q l.length l
def sgn (l:List Int):List Int:=if see l 0 == 43 || see l 0 == 45 then [see l 0] else []
def pointed (l:List Int):Bool:=see l 0 == 46 && isDigit (see l 1)
def numText (l:List Int):List Int × List Int × Bool:=
 let d:=(unsign l).takeWhile isDigit
 let r:=(unsign l).dropWhile isDigit
 if pointed r then (sgn l ++ d ++ 46 :: r.tail.takeWhile isDigit,r.tail.dropWhile isDigit,false) else (sgn l ++ d,r,true)
def numeric (nv:List Int → Int) (l:List Int):Tk × List Int:=
 let t:=numText l
 if begName t.2.1 then (⟨8,(name t.2.1).1,nv t.1,false,0⟩,(name t.2.1).2)
 else if see t.2.1 0 = 37 then (⟨7,[],nv t.1,false,0⟩,t.2.1.tail)
 else (⟨6,[],nv t.1,t.2.2,0⟩,t.2.1)
def skipC:List Int → List Int
 | [] => []
 | c :: r => if c = 42 ∧ see r 0 = 47 then r.tail else skipC r
def sign (c:Int):Int:=if c = 58 then 11 else if c = 59 then 12 else if c = 44 then 13 else if c = 123 then 14 else if c = 125 then 15 else if c = 40 then 16 else if c = 41 then 17 else if c = 91 then 18 else if c = 93 then 19 else 0
def step (nv:List Int → Int) (l:List Int):Option Tk × List Int:=
 if see l 0 = 47 ∧ see l 1 = 42 then (none,skipC (l.drop 2))
 else if isWhite (see l 0) then (some ⟨9,[],0,false,0⟩,l.dropWhile isWhite)
 else if see l 0 = 34 ∨ see l 0 = 39 then (some (match (str (see l 0) l.tail).1 with | some t => ⟨4,t,0,false,0⟩ | none => ⟨5,[],0,false,0⟩),(str (see l 0) l.tail).2)
 else if see l 0 = 35 ∧ (namePt (see l 1) || escAt l.tail) = true then (some ⟨3,(name l.tail).1,0,false,0⟩,(name l.tail).2)
 else if begNum l then (some (numeric nv l).1,(numeric nv l).2)
 else if see l 0 = 64 ∧ begName l.tail = true then (some ⟨2,(name l.tail).1,0,false,0⟩,(name l.tail).2)
 else if begName l then
  if see (name l).2 0 = 40 then (some ⟨20,(name l).1,0,false,0⟩,(name l).2.tail) else (some ⟨1,(name l).1,0,false,0⟩,(name l).2)
 else if 0 < sign (see l 0) then (some ⟨sign (see l 0),[],0,false,0⟩,l.tail)
 else (some ⟨10,[],0,false,see l 0⟩,l.tail)
def toksF (nv:List Int → Int):Nat → List Int → List Tk
 | 0,_ => []
 | _ + 1,[] => []
 | f + 1,c :: r => (step nv (c :: r)).1.toList ++ toksF nv f (step nv (c :: r)).2
def toks (nv:List Int → Int) (l:List Int):List Tk:=toksF nv l.length l
/-! ### what is left is shorter -/
theorem tail_le_len (l:List Int):l.tail.length ≤ l.length:=by rw [List.length_tail];omega
theorem dropWhile_len (p:Int → Bool) (l:List Int):(l.dropWhile p).length ≤ l.length:=(List.dropWhile_sublist p).length_le
theorem hexRun_len:∀ (k:Nat) (n:Int) (l:List Int),(hexRun k n l).2.length ≤ l.length
 | 0,_,_ => Nat.le_refl _
 | _ + 1,_,[] => Nat.le_refl _
 | k + 1,n,c :: r => by
  unfold hexRun
  split
  ·have:=hexRun_len k (n * 16 + hexv c) r
   rw [List.length_cons]
   omega
  ·exact Nat.le_refl _
theorem escd_len (c:Int) (r:List Int):(escd (c :: r)).2.length ≤ r.length:=by
 unfold escd
 split
 ·show (r.drop 1).length ≤ r.length
  rw [List.length_drop]
  omega
 ·have:=hexRun_len 6 0 r
  have h2:=tail_le_len (hexRun 6 0 r).2
  show (if isWhite (see (hexRun 6 0 r).2 0) then (hexRun 6 0 r).2.tail else (hexRun 6 0 r).2).length ≤ r.length
  split <;> omega
theorem nameF_len:∀ (f:Nat) (l:List Int),(nameF f l).2.length ≤ l.length
 | 0,_ => Nat.le_refl _
 | _ + 1,[] => Nat.le_refl _
 | f + 1,c :: r => by
  unfold nameF
  split
  ·have:=nameF_len f r
   rw [List.length_cons]
   exact Nat.le_succ_of_le this
  ·split
   ·have:=nameF_len f (escd (c :: r)).2
    have h2:=escd_len c r
    rw [List.length_cons]
    exact Nat.le_trans this (by omega)
   ·exact Nat.le_refl _
theorem strF_len (q:Int):∀ (f:Nat) (l:List Int),(strF q f l).2.length ≤ l.length
 | 0,_ => Nat.le_refl _
 | _ + 1,[] => Nat.le_refl _
 | f + 1,c :: r => by
  unfold strF
  split
  ·exact Nat.le_succ _
  ·split
   ·exact Nat.le_refl _
   ·split
    ·split
     ·exact Nat.zero_le _
     ·split
      ·exact Nat.le_trans (strF_len q f r.tail) (Nat.le_succ_of_le (tail_le_len r))
      ·exact Nat.le_trans (strF_len q f (escd (c :: r)).2) (Nat.le_succ_of_le (escd_len c r))
    ·exact Nat.le_succ_of_le (strF_len q f r)
theorem skipC_len:∀ l:List Int,(skipC l).length ≤ l.length
 | [] => Nat.le_refl _
 | c :: r => by
  unfold skipC
  split
  ·exact Nat.le_succ_of_le (tail_le_len r)
  ·exact Nat.le_succ_of_le (skipC_len r)
/-! ### the steps, without counting -/
theorem nameF_more:∀ (f g:Nat) (l:List Int),l.length ≤ f → l.length ≤ g → nameF f l = nameF g l
 | 0,0,_,_,_ => rfl
 | 0,g + 1,l,hf,_ => by
  have:l = []:=List.length_eq_zero_iff.1 (by omega)
  subst this
  rfl
 | f + 1,0,l,_,hg => by
  have:l = []:=List.length_eq_zero_iff.1 (by omega)
  subst this
  rfl
 | f + 1,g + 1,[],_,_ => rfl
 | f + 1,g + 1,c :: r,hf,hg => by
  rw [List.length_cons] at hf hg
  have h1:=nameF_more f g r (by omega) (by omega)
  have hl:=escd_len c r
  have h2:=nameF_more f g (escd (c :: r)).2 (by omega) (by omega)
  simp only [nameF,h1,h2]
theorem name_cons (c:Int) (r:List Int):name (c :: r) = if namePt c then (c :: (name r).1,(name r).2)
  else if escAt (c :: r) then ((escd (c :: r)).1 :: (name (escd (c :: r)).2).1,(name (escd (c :: r)).2).2) else ([],c :: r):=by
 have hl:=escd_len c r
 unfold name
 rw [List.length_cons,nameF,nameF_more r.length (escd (c :: r)).2.length (escd (c :: r)).2 hl (Nat.le_refl _)]
theorem name_len (l:List Int):(name l).2.length ≤ l.length:=nameF_len _ l
theorem strF_more (q:Int):∀ (f g:Nat) (l:List Int),l.length ≤ f → l.length ≤ g → strF q f l = strF q g l
 | 0,0,_,_,_ => rfl
 | 0,g + 1,l,hf,_ => by
  have:l = []:=List.length_eq_zero_iff.1 (by omega)
  subst this
  rfl
 | f + 1,0,l,_,hg => by
  have:l = []:=List.length_eq_zero_iff.1 (by omega)
  subst this
  rfl
 | f + 1,g + 1,[],_,_ => rfl
 | f + 1,g + 1,c :: r,hf,hg => by
  rw [List.length_cons] at hf hg
  have h1:=strF_more q f g r (by omega) (by omega)
  have hl:=escd_len c r
  have h2:=strF_more q f g (escd (c :: r)).2 (by omega) (by omega)
  have ht:=tail_le_len r
  have h3:=strF_more q f g r.tail (by omega) (by omega)
  simp only [strF,h1,h2,h3]
theorem str_nil (q:Int):str q [] = (some [],[]):=rfl
theorem str_cons (q c:Int) (r:List Int):str q (c :: r) = if c = q then (some [],r)
  else if c = 10 then (none,c :: r)
  else if c = 92 then
   if r = [] then (some [],[])
   else if see r 0 = 10 then str q r.tail
   else ((str q (escd (c :: r)).2).1.map ((escd (c :: r)).1 :: ·),(str q (escd (c :: r)).2).2)
  else ((str q r).1.map (c :: ·),(str q r).2):=by
 have hl:=escd_len c r
 have ht:=tail_le_len r
 unfold str
 rw [List.length_cons,strF,strF_more q r.length (escd (c :: r)).2.length (escd (c :: r)).2 hl (Nat.le_refl _),strF_more q r.length r.tail.length r.tail ht (Nat.le_refl _)]
theorem str_len (q:Int) (l:List Int):(str q l).2.length ≤ l.length:=strF_len q _ l
theorem see_zero (c:Int) (r:List Int):see (c :: r) 0 = c:=rfl
theorem see_succ (c:Int) (r:List Int) (k:Nat):see (c :: r) (k + 1) = see r k:=by simp [see]
theorem see_nil (k:Nat):see [] k = -1:=rfl
theorem isDigit_iff {c:Int}:isDigit c = true ↔ 48 ≤ c ∧ c ≤ 57:=by simp [isDigit]
theorem numText_len {c:Int} {r:List Int} (h:begNum (c :: r) = true):(numText (c :: r)).2.1.length ≤ r.length:=by
 have hu:(unsign (c :: r)).length ≤ r.length + 1:=by
  unfold unsign
  split
  ·show r.length ≤ _;omega
  ·exact Nat.le_refl _
 unfold numText
 simp only
 split
 ·rename_i hp
  have h1:=dropWhile_len isDigit ((unsign (c :: r)).dropWhile isDigit).tail
  have h2:=dropWhile_len isDigit (unsign (c :: r))
  have h3:((unsign (c :: r)).dropWhile isDigit) ≠ []:=fun e => by rw [e] at hp;revert hp;decide
  have h4:((unsign (c :: r)).dropWhile isDigit).tail.length + 1 = ((unsign (c :: r)).dropWhile isDigit).length:=by
   cases e:(unsign (c :: r)).dropWhile isDigit with
   | nil => exact absurd e h3
   | cons a b => rfl
  show (((unsign (c :: r)).dropWhile isDigit).tail.dropWhile isDigit).length ≤ _
  omega
 ·rename_i hp
  show ((unsign (c :: r)).dropWhile isDigit).length ≤ r.length
  unfold begNum at h
  cases e:unsign (c :: r) with
  | nil => simp
  | cons a b =>
   rw [e] at h hp hu
   rw [List.length_cons] at hu
   cases ha:isDigit a with
   | true =>
    have:=dropWhile_len isDigit b
    rw [List.dropWhile_cons,if_pos ha]
    omega
   | false =>
    rw [List.dropWhile_cons,if_neg (by simp [ha])] at hp
    rw [see_zero,ha,Bool.false_or] at h
    exact absurd h hp
theorem numeric_len {nv:List Int → Int} {c:Int} {r:List Int} (h:begNum (c :: r) = true):(numeric nv (c :: r)).2.length ≤ r.length:=by
 have h1:=numText_len h
 have h2:=name_len (numText (c :: r)).2.1
 have h3:=tail_le_len (numText (c :: r)).2.1
 unfold numeric
 simp only
 split
 ·exact Nat.le_trans h2 h1
 ·split
  ·exact Nat.le_trans h3 h1
  ·exact h1
theorem name_beg_len {c:Int} {r:List Int} (h:begName (c :: r) = true):(name (c :: r)).2.length ≤ r.length:=by
 rw [name_cons]
 split
 ·exact name_len r
 ·rename_i hn
  split
  ·exact Nat.le_trans (name_len _) (escd_len c r)
  ·rename_i he
   exfalso
   unfold begName at h
   rw [see_zero] at h
   split at h
   ·rename_i hm
    apply hn
    unfold namePt
    rw [hm]
    simp
   ·unfold namePt at hn
    cases hs:nameStart c with
    | true => rw [hs] at hn;exact hn rfl
    | false => rw [hs,Bool.false_or] at h;exact he h
theorem step_len (nv:List Int → Int) (c:Int) (r:List Int):(step nv (c :: r)).2.length ≤ r.length:=by
 unfold step
 have hr:(c :: r).tail = r:=rfl
 split
 ·have:=skipC_len ((c :: r).drop 2)
  show (skipC ((c :: r).drop 2)).length ≤ _
  rw [List.length_drop,List.length_cons] at this
  omega
 ·split
  ·rename_i hw
   rw [see_zero] at hw
   show ((c :: r).dropWhile isWhite).length ≤ _
   rw [List.dropWhile_cons,if_pos hw]
   exact dropWhile_len _ _
  ·split
   ·exact str_len _ _
   ·split
    ·exact name_len _
    ·split
     ·rename_i hb
      exact numeric_len hb
     ·split
      ·exact name_len _
      ·split
       ·rename_i hb
        have:=name_beg_len hb
        split
        ·exact Nat.le_trans (tail_le_len _) this
        ·exact this
       ·split <;> exact Nat.le_refl _
theorem toksF_more (nv:List Int → Int):∀ (f g:Nat) (l:List Int),l.length ≤ f → l.length ≤ g → toksF nv f l = toksF nv g l
 | 0,0,_,_,_ => rfl
 | 0,g + 1,l,hf,_ => by
  have:l = []:=List.length_eq_zero_iff.1 (by omega)
  subst this
  rfl
 | f + 1,0,l,_,hg => by
  have:l = []:=List.length_eq_zero_iff.1 (by omega)
  subst this
  rfl
 | f + 1,g + 1,[],_,_ => rfl
 | f + 1,g + 1,c :: r,hf,hg => by
  rw [List.length_cons] at hf hg
  have hl:=step_len nv c r
  rw [toksF,toksF,toksF_more nv f g (step nv (c :: r)).2 (by omega) (by omega)]
theorem toks_nil (nv:List Int → Int):toks nv [] = []:=rfl
theorem toks_cons (nv:List Int → Int) (c:Int) (r:List Int):toks nv (c :: r) = (step nv (c :: r)).1.toList ++ toks nv (step nv (c :: r)).2:=by
 have hl:=step_len nv c r
 unfold toks
 rw [List.length_cons,toksF,toksF_more nv r.length (step nv (c :: r)).2.length _ hl (Nat.le_refl _)]
theorem toks_le (nv:List Int → Int) (l:List Int):(toks nv l).length ≤ l.length:=by
 have key:∀ (n:Nat) (l:List Int),l.length ≤ n → (toks nv l).length ≤ l.length:=by
  intro n
  induction n with
  | zero =>
   intro l hl
   have:l = []:=List.length_eq_zero_iff.1 (by omega)
   subst this
   exact Nat.le_refl _
  | succ n ih =>
   intro l hl
   cases l with
   | nil => exact Nat.le_refl _
   | cons c r =>
    rw [List.length_cons] at hl
    have h1:=step_len nv c r
    have h2:=ih (step nv (c :: r)).2 (by omega)
    rw [toks_cons,List.length_append,List.length_cons]
    have h3:(step nv (c :: r)).1.toList.length ≤ 1:=by cases (step nv (c :: r)).1 <;> simp
    omega
 exact key l.length l (Nat.le_refl _)
end Go.Proofs.YtagbjmocjaaioaaGreatDoor

/- Plain facts on tokens over lists: names, strings, signs, white. -/
namespace Go.Proofs.YtagbjmocjaaioaaGreatDoor
theorem nameStart_iff {c:Int}:nameStart c = true ↔ (97 ≤ c ∧ c ≤ 122) ∨ (65 ≤ c ∧ c ≤ 90) ∨ c = 95 ∨ 128 ≤ c:=by
 simp only [nameStart,Bool.or_eq_true,Bool.and_eq_true,decide_eq_true_eq,beq_iff_eq]
 omega
theorem isWhite_iff {c:Int}:isWhite c = true ↔ c = 9 ∨ c = 10 ∨ c = 32:=by
 simp only [isWhite,Bool.or_eq_true,beq_iff_eq]
 omega
theorem ff {b:Bool} (h:¬ b = true):b = false:=by cases b <;> simp_all
theorem isDigit_no {c:Int} (h:¬ (48 ≤ c ∧ c ≤ 57)):isDigit c = false:=ff (fun e => h (isDigit_iff.1 e))
/-! ### names -/
theorem name_stop {l:List Int} (h:namePt (see l 0) = false) (he:escAt l = false):name l = ([],l):=by
 cases l with
 | nil => rfl
 | cons c r =>
  rw [see_zero] at h
  rw [name_cons,h,he]
  rfl
/-! ### which step is taken -/
variable (nv:List Int → Int)
theorem unsign_no {l:List Int} (h1:see l 0 ≠ 43) (h2:see l 0 ≠ 45):unsign l = l:=by simp [unsign,h1,h2]
theorem begNum_no {l:List Int} (h1:see l 0 ≠ 43) (h2:see l 0 ≠ 45) (h3:isDigit (see l 0) = false) (h4:see l 0 ≠ 46):begNum l = false:=by
 unfold begNum
 rw [unsign_no h1 h2,h3]
 simp [h4]
theorem step_at {r:List Int} (h:begName r = true):step nv (64 :: r) = (some ⟨2,(name r).1,0,false,0⟩,(name r).2):=by
 unfold step
 rw [see_zero,if_neg (by omega),if_neg (by decide),if_neg (by decide),if_neg (by omega),begNum_no (by rw [see_zero];decide) (by rw [see_zero];decide) (by rw [see_zero];decide) (by rw [see_zero];decide),if_neg (by decide),if_pos ⟨rfl,h⟩]
 rfl
/-! ### strings -/
/-! ### one code point alone; white -/
end Go.Proofs.YtagbjmocjaaioaaGreatDoor

/- Plain facts on tokens over lists: numbers, escapes. -/
namespace Go.Proofs.YtagbjmocjaaioaaGreatDoor
variable (nv:List Int → Int)
/-! ### numbers -/
/-! ### escapes -/
def isHex (c:Int):Bool:=decide (0 ≤ hexv c)
theorem isHex_iff {c:Int}:isHex c = true ↔ 0 ≤ hexv c:=by simp [isHex]
end Go.Proofs.YtagbjmocjaaioaaGreatDoor

/- Plain facts on tokens over lists: what stands ahead of a sign that goes on with nothing is read as it is alone; comments; what each kind of token has. -/
namespace Go.Proofs.YtagbjmocjaaioaaGreatDoor
variable (nv:List Int → Int)
/-! ### ahead of a sign that goes on with nothing -/
theorem pointed_ne {a:List Int} (h:pointed a = true):a ≠ []:=fun e => by rw [e] at h;exact absurd h (by decide)
/-! ### comments -/
theorem toks_comment (r:List Int):toks nv (47 :: 42 :: r) = toks nv (skipC r):=by
 have e:step nv (47 :: 42 :: r) = (none,skipC r):=by
  unfold step
  rw [if_pos ⟨rfl,rfl⟩]
  rfl
 rw [toks_cons,e]
 rfl
/-! ### parts -/
/-! ### what each kind has -/
/-! ### white beside white -/
def noComment (l:List Int):Prop:=∀ p q:List Int,l ≠ p ++ 47 :: 42 :: q
theorem noComment.see {l:List Int} (h:noComment l):¬ (see l 0 = 47 ∧ see l 1 = 42):=by
 rintro ⟨h1,h2⟩
 match l,h1,h2 with
 | [],h1,_ => exact absurd h1 (by decide)
 | [c],_,h2 => exact absurd h2 (by simp [Go.Proofs.YtagbjmocjaaioaaGreatDoor.see])
 | c :: d :: r,h1,h2 =>
  rw [see_zero] at h1
  rw [see_succ,see_zero] at h2
  subst h1 h2
  exact h [] r rfl
theorem step_some {l:List Int} (h:¬ (see l 0 = 47 ∧ see l 1 = 42)):∃ k,(step nv l).1 = some k:=by
 unfold step
 rw [if_neg h]
 repeat' split
 all_goals exact ⟨_,rfl⟩
end Go.Proofs.YtagbjmocjaaioaaGreatDoor

/- package tok's questions on one code point. -/
namespace Go.Proofs.YtagbjmocjaaioaaGreatDoor
open Go Go.RowKit
theorem ret_bool {a b:Bool} (h:a = true ↔ b = true):Ending.returned (.bool a) = .returned (.bool b):=by rw [Bool.eq_iff_iff.2 h]
theorem ret_int {a b:Int} (h:a = b):Ending.returned (.int .i64 a) = .returned (.int .i64 b):=by rw [h]
set_option maxHeartbeats 400000 in
theorem settled_any (c:Int) (w:World):Calls Tryz.prog 185 #[.int .i64 c] w fun e w' => e = .returned (.int .i64 (fixC c)) ∧ w' = w:=by
 go_enter Tryz.func185,Tryz.ntmps185
 go_wp2
 all_goals go_ret
 all_goals refine ⟨ret_int ?_,rfl⟩
 all_goals first | exact (fixC_yes (rightB_true (by omega))).symm | exact (fixC_no (rightB_false (by omega))).symm
theorem isWhite_any (c:Int) (w:World):Calls Tryz.prog 186 #[.int .i64 c] w fun e w' => e = .returned (.bool (isWhite c)) ∧ w' = w:=by
 go_enter Tryz.func186,Tryz.ntmps186
 go_wp2
 all_goals go_ret
 all_goals refine ⟨ret_bool ?_,rfl⟩
 all_goals (rw [isWhite_iff];try simp;try omega)
theorem isDigit_any (c:Int) (w:World):Calls Tryz.prog 228 #[.int .i64 c] w fun e w' => e = .returned (.bool (isDigit c)) ∧ w' = w:=by
 go_enter Tryz.func228,Tryz.ntmps228
 go_wp2
 all_goals go_ret
 all_goals refine ⟨ret_bool ?_,rfl⟩
 all_goals (rw [isDigit_iff];try simp;try omega)
set_option maxHeartbeats 1000000 in
theorem isNameStart_any (c:Int) (w:World):Calls Tryz.prog 227 #[.int .i64 c] w fun e w' => e = .returned (.bool (nameStart c)) ∧ w' = w:=by
 go_enter Tryz.func227,Tryz.ntmps227
 go_wp2
 all_goals go_ret
 all_goals refine ⟨ret_bool ?_,rfl⟩
 all_goals (rw [nameStart_iff];try simp;try omega)
theorem isSign_any (c:Int) (w:World):Calls Tryz.prog 230 #[.int .i64 c] w fun e w' => e = .returned (.bool (c == 43 || c == 45)) ∧ w' = w:=by
 go_enter Tryz.func230,Tryz.ntmps230
 go_wp2
 all_goals go_ret
 all_goals refine ⟨ret_bool ?_,rfl⟩
 all_goals (try simp;try omega)
set_option maxHeartbeats 1000000 in
theorem isNamePoint_any (c:Int) (w:World):Calls Tryz.prog 189 #[.int .i64 c] w fun e w' => e = .returned (.bool (namePt c)) ∧ w' = w:=by
 have h1:=isNameStart_any c
 have h2:=isDigit_any c
 rw [show namePt c = (nameStart c || isDigit c || c == 45) from rfl]
 generalize nameStart c = a at *
 generalize isDigit c = b at *
 cases a with
 | true =>
  go_enter Tryz.func189,Tryz.ntmps189
  go_wp2_with fail
  refine (h1 _).mono ?_
  rintro e w' ⟨rfl,rfl⟩
  go_wp2
  go_ret
  exact ⟨rfl,rfl⟩
 | false =>
  cases b with
  | true =>
   go_enter Tryz.func189,Tryz.ntmps189
   go_wp2_with fail
   refine (h1 _).mono ?_
   rintro e w' ⟨rfl,rfl⟩
   go_wp2_with fail
   refine (h2 _).mono ?_
   rintro e w' ⟨rfl,rfl⟩
   go_wp2
   go_ret
   exact ⟨rfl,rfl⟩
  | false =>
   go_enter Tryz.func189,Tryz.ntmps189
   go_wp2_with fail
   refine (h1 _).mono ?_
   rintro e w' ⟨rfl,rfl⟩
   go_wp2_with fail
   refine (h2 _).mono ?_
   rintro e w' ⟨rfl,rfl⟩
   go_wp2
   go_ret
   exact ⟨rfl,rfl⟩
def hexOr (c:Int):Int:=if 0 ≤ hexv c then hexv c else 0
set_option maxHeartbeats 1000000 in
theorem hexDigit_any (c:Int) (w:World):Calls Tryz.prog 263 #[.int .i64 c] w fun e w' => e = .returned (.tuple #[.int .i64 (hexOr c),.bool (isHex c)]) ∧ w' = w:=by
 have h2:=isDigit_any c
 by_cases hd:48 ≤ c ∧ c ≤ 57
 ·rw [isDigit_iff.2 hd] at h2
  have e1:hexv c = c - 48:=by unfold hexv;rw [if_pos hd]
  rw [show hexOr c = c - 48 by unfold hexOr;rw [e1,if_pos (by omega)],show isHex c = true from isHex_iff.2 (by omega)]
  clear e1
  go_enter Tryz.func263,Tryz.ntmps263
  go_wp2_with fail
  refine (h2 _).mono ?_
  rintro e w' ⟨rfl,rfl⟩
  go_wp2
  go_ret2
  exact ⟨rfl,rfl⟩
 ·rw [isDigit_no hd] at h2
  by_cases ha:97 ≤ c ∧ c ≤ 102
  ·have e1:hexv c = c - 97 + 10:=by unfold hexv;rw [if_neg hd,if_pos ha]
   rw [show hexOr c = c - 97 + 10 by unfold hexOr;rw [e1,if_pos (by omega)],show isHex c = true from isHex_iff.2 (by omega)]
   clear e1 hd
   go_enter Tryz.func263,Tryz.ntmps263
   go_wp2_with fail
   refine (h2 _).mono ?_
   rintro e w' ⟨rfl,rfl⟩
   go_wp2
   go_ret2
   exact ⟨rfl,rfl⟩
  ·by_cases hb:65 ≤ c ∧ c ≤ 70
   ·have e1:hexv c = c - 65 + 10:=by unfold hexv;rw [if_neg hd,if_neg ha,if_pos hb]
    rw [show hexOr c = c - 65 + 10 by unfold hexOr;rw [e1,if_pos (by omega)],show isHex c = true from isHex_iff.2 (by omega)]
    clear e1 hd
    go_enter Tryz.func263,Tryz.ntmps263
    go_wp2_with fail
    refine (h2 _).mono ?_
    rintro e w' ⟨rfl,rfl⟩
    go_wp2
    go_ret2
    exact ⟨rfl,rfl⟩
   ·have e1:hexv c = -1:=by unfold hexv;rw [if_neg hd,if_neg ha,if_neg hb]
    rw [show hexOr c = 0 by unfold hexOr;rw [e1];rfl,show isHex c = false by simp [isHex,e1]]
    clear e1 hd
    go_enter Tryz.func263,Tryz.ntmps263
    go_wp2_with fail
    refine (h2 _).mono ?_
    rintro e w' ⟨rfl,rfl⟩
    go_wp2
    all_goals first | (go_ret2;exact ⟨rfl,rfl⟩) | omega
end Go.Proofs.YtagbjmocjaaioaaGreatDoor

/- package tok's reader: where it stands, what it sees, how it goes on. -/
set_option maxRecDepth 100000
namespace Go.Proofs.YtagbjmocjaaioaaGreatDoor
open Go Go.RowKit
/-! ### a struct of two cells in a block of its own -/
def Pair (W:World) (B:Nat) (t:TypeId) (v m:Value):Prop:=W.heap[B]? = some (.cells #[v,m] t (0,0))
theorem Pair.lt {W:World} {B:Nat} {t:TypeId} {v m:Value} (h:Pair W B t v m):B < W.heap.size:=(Array.getElem?_eq_some_iff.1 h).1
theorem Pair.c0 {W:World} {B:Nat} {t:TypeId} {v m:Value} (h:Pair W B t v m):W.cell? ⟨B,0,none⟩ = some v:=by simp [World.cell?,show W.heap[B]? = _ from h]
theorem Pair.c1 {W:World} {B:Nat} {t:TypeId} {v m:Value} (h:Pair W B t v m):W.cell? ⟨B,1,none⟩ = some m:=by simp [World.cell?,show W.heap[B]? = _ from h]
theorem Pair.f1 {W:World} {B:Nat} {t:TypeId} {v m:Value} (h:Pair W B t v m):W.frozen? ⟨B,1,none⟩ = false:=by simp [World.frozen?,show W.heap[B]? = _ from h]
theorem Pair.set1 {W:World} {B:Nat} {t:TypeId} {v m:Value} (h:Pair W B t v m) (u:Value):Pair (W.setCell ⟨B,1,none⟩ u) B t v u:=by
 unfold Pair at h ⊢
 simp [World.setCell,Array.getElem?_modify,h]
theorem Pair.kept {W W':World} {row:Option Nat} {B:Nat} {t:TypeId} {v m:Value} (h:Pair W B t v m) (hg:W.grownBy W' row) (hne:some B ≠ row):Pair W' B t v m:=(hg.block B h.lt hne).trans h
theorem grown_set1 (W:World) (b:Nat) (v:Value):W.grownBy (W.setCell ⟨b,1,none⟩ v) (some b):=
 ⟨rfl,rfl,rfl,by simp [World.setCell],fun i _ hne => Below.heap_setCell _ _ _ _ (fun e => hne (by rw [e]))⟩
theorem grown_drewN (W:World) (n:Nat) (row:Option Nat):W.grownBy (W.drewN n) row:=⟨rfl,rfl,rfl,Nat.le_refl _,fun _ _ _ => rfl⟩
theorem grown_but {a c:World} (h:a.grownBy c none) (row:Option Nat):a.grownBy c row:=⟨h.os,h.tape,h.output,h.size,fun i hi _ => h.block i hi (by simp)⟩
theorem below_of_grown {W W':World} {R:Nat} (h:W.grownBy W' (some R)) (hR:R ≤ W.heap.size):Below R W W':=
 (Below.refl R W).grown h hR (fun r e => by cases e;exact Nat.le_refl _)
theorem below_of_still {W W':World} {row:Option Nat} (h:W.grownBy W' none) (R:Nat) (hR:R ≤ W.heap.size) (_hrow:row = none):Below R W W':=
 (Below.refl R W).grown h hR (fun r e => by cases e)
structure Rd (n₀:Nat) (W:World) (R:Nat) (v:Value) (raw:List Int) (a:Nat):Prop where
 pair:Pair W R 207 v (.int .i64 a)
 ints:IntsAt n₀ W v raw
 low:n₀ ≤ R
 least:a ≤ raw.length
 most:raw.length ≤ 1000000
def At (n₀:Nat) (W:World) (R:Nat) (raw l:List Int):Prop:=∃ v a,Rd n₀ W R v raw a ∧ l = (raw.map fixC).drop a
theorem Rd.kept {W W':World} {n₀ R:Nat} {v:Value} {raw:List Int} {a:Nat} (h:Rd n₀ W R v raw a) (hg:W.grownBy W' none):Rd n₀ W' R v raw a:=
 ⟨h.pair.kept hg (by simp),h.ints.below (below_of_still hg n₀ (Nat.le_trans h.low (Nat.le_of_lt h.pair.lt)) (row:=none) rfl),h.low,h.least,h.most⟩
theorem At.kept {W W':World} {n₀ R:Nat} {raw l:List Int} (h:At n₀ W R raw l) (hg:W.grownBy W' none):At n₀ W' R raw l:=by
 obtain ⟨v,a,hr,e⟩:=h
 exact ⟨v,a,hr.kept hg,e⟩
theorem At.lt {W:World} {n₀ R:Nat} {raw l:List Int} (h:At n₀ W R raw l):R < W.heap.size:=by
 obtain ⟨v,a,hr,_⟩:=h
 exact hr.pair.lt
theorem Rd.set {W:World} {n₀ R:Nat} {v:Value} {raw:List Int} {a:Nat} (h:Rd n₀ W R v raw a) (k:Nat) (hk:k ≤ raw.length):Rd n₀ (W.setCell ⟨R,1,none⟩ (.int .i64 k)) R v raw k:=
 ⟨h.pair.set1 _,h.ints.below ((below_of_grown (grown_set1 W R _) (Nat.le_of_lt h.pair.lt)).mono h.low),h.low,hk,h.most⟩
theorem Rd.place {W:World} {n₀ R:Nat} {v:Value} {raw:List Int} {a:Nat} (h:Rd n₀ W R v raw a) {c:Int} {l:List Int} (e:c :: l = (raw.map fixC).drop a):a < raw.length ∧ l = (raw.map fixC).drop (a + 1):=by
 have hl:=congrArg List.length e
 rw [List.length_cons,List.length_drop,List.length_map] at hl
 have:=h.most
 refine ⟨by omega,?_⟩
 rw [← List.drop_drop,← e]
 rfl
theorem see_drop (l:List Int) (a k:Nat):see (l.drop a) k = see l (a + k):=by simp [see,List.getElem?_drop]
theorem see_raw {raw:List Int} {k:Nat} (h:k < raw.length):see (raw.map fixC) k = fixC raw[k]:=by simp [see,h]
theorem see_out {l:List Int} {k:Nat} (h:l.length ≤ k):see l k = -1:=by simp [see,h]
set_option maxHeartbeats 1000000 in
theorem ahead_any (n:Nat) (hn:n ≤ 10) {w:World} {n₀ R:Nat} {raw l:List Int} (h:At n₀ w R raw l) :
  Calls Tryz.prog 151 #[.pointer (some ⟨R,0,none⟩),.int .i64 n] w fun e w' => e = .returned (.int .i64 (see l n)) ∧ w.grownBy w' none:=by
 obtain ⟨v,a,hr,rfl⟩:=h
 obtain ⟨p,cap,rfl⟩:=hr.ints.len
 have c0:=hr.pair.c0
 have c1:=hr.pair.c1
 have ha:=hr.least
 have hm:=hr.most
 rw [see_drop]
 by_cases hlt:a + n < raw.length
 ·obtain ⟨bk,off,hp,hcell⟩:∃ bk off,p = some ⟨bk,off,none⟩ ∧ ∀ j u,raw[j]? = some u → w.cell? ⟨bk,off + j,none⟩ = some (.int .i64 u):=by
   rcases hr.ints with ⟨rfl,_⟩ | ⟨bk,off,c,e,_,_,_,h⟩
   ·simp at hlt
   ·cases e;exact ⟨bk,off,rfl,h⟩
  subst hp
  have c2:=hcell (a + n) _ (List.getElem?_eq_getElem hlt)
  have hs:=settled_any raw[a + n]
  rw [see_raw hlt]
  clear hcell hr
  generalize raw[a + n] = u at *
  have hw:IntKind.i64.wrap ((a:Int) + (n:Int)) = ((a + n:Nat):Int):=by rw [IntKind.wrap_i64];omega
  have hi:(n:Int) < (raw.length:Int) - a:=by omega
  generalize a + n = m at *
  go_enter Tryz.func151,Tryz.ntmps151
  go_wp2
  go_quiet (fail)
  have d0:(w.drewN nq).cell? _ = _:=c0
  have d1:(w.drewN nq).cell? _ = _:=c1
  have d2:(w.drewN nq).cell? _ = _:=c2
  have g1:w.grownBy (w.drewN nq) none:=grown_drewN _ _ _
  generalize w.drewN nq = w1 at *
  clear c0 c1 c2
  go_wp2
  go_quiet ((go_at_call 185;exact Calls.quiet_of_same (hs _)))
  go_wp2
  go_ret
  exact ⟨rfl,g1.trans (grown_drewN _ _ _)⟩
 ·rw [see_out (by rw [List.length_map];omega)]
  have hi:¬ (n:Int) < (raw.length:Int) - a:=by omega
  clear hr
  go_enter Tryz.func151,Tryz.ntmps151
  go_wp2
  go_quiet (fail)
  go_wp2
  all_goals first | omega | skip
  go_ret
  exact ⟨rfl,grown_drewN _ _ _⟩
set_option maxHeartbeats 1000000 in
theorem take_any {w:World} {n₀ R:Nat} {raw l:List Int} {c:Int} (h:At n₀ w R raw (c :: l)) :
  Calls Tryz.prog 223 #[.pointer (some ⟨R,0,none⟩)] w fun e w' => e = .returned (.int .i64 c) ∧ At n₀ w' R raw l ∧ w.grownBy w' (some R):=by
 have ha:=ahead_any 0 (by omega) h
 rw [see_zero] at ha
 go_enter Tryz.func223,Tryz.ntmps223
 go_wp2_with fail
 refine ha.mono ?_
 rintro e w1 ⟨rfl,g1⟩
 have h1:=h.kept g1
 clear ha h
 obtain ⟨v,a,hr,e⟩:=h1
 obtain ⟨hlt,e'⟩:=hr.place e
 have c1:=hr.pair.c1
 have f1:=hr.pair.f1
 have hb:=hr.least
 have hm:=hr.most
 clear e
 go_wp2
 go_ret
 exact ⟨rfl,⟨v,a + 1,hr.set (a + 1) (by omega),e'⟩,(grown_but g1 _).trans (grown_set1 _ _ _)⟩
end Go.Proofs.YtagbjmocjaaioaaGreatDoor

/- package tok's reader: what begins where it stands. -/
namespace Go.Proofs.YtagbjmocjaaioaaGreatDoor
open Go Go.RowKit
theorem At.see_ge {W:World} {n₀ R:Nat} {raw l:List Int} (h:At n₀ W R raw l) (k:Nat):see l k = -1 ∨ 0 ≤ see l k:=by
 obtain ⟨v,a,hr,rfl⟩:=h
 rw [see_drop]
 by_cases hk:a + k < raw.length
 ·rw [see_raw hk]
  exact .inr (fixC_right _).1
 ·exact .inl (see_out (by rw [List.length_map];omega))
theorem escAt_eq (l:List Int) (n:Nat):escAt (l.drop n) = (see l n == 92 && decide (0 ≤ see l (n + 1)) && see l (n + 1) != 10):=by
 unfold escAt
 rw [see_drop,see_drop]
 rfl
set_option maxHeartbeats 1000000 in
theorem escapes_any (n:Nat) (hn:n ≤ 3) {w:World} {n₀ R:Nat} {raw l:List Int} (h:At n₀ w R raw l) :
  Calls Tryz.prog 190 #[.pointer (some ⟨R,0,none⟩),.int .i64 n] w fun e w' => e = .returned (.bool (escAt (l.drop n))) ∧ w.grownBy w' none:=by
 have h1:Calls Tryz.prog 151 #[.pointer (some ⟨R,0,none⟩),.int .i64 ((n:Int) + 1)] w fun e w' => e = .returned (.int .i64 (see l (n + 1))) ∧ w.grownBy w' none:=ahead_any (n + 1) (by omega) h
 have h2:=fun w1 (g:w.grownBy w1 none) => ahead_any n (by omega) (h.kept g)
 have hge:=h.see_ge (n + 1)
 rw [escAt_eq]
 clear h
 generalize see l (n + 1) = d at *
 generalize see l n = c at *
 go_enter Tryz.func190,Tryz.ntmps190
 go_wp2_with fail
 refine h1.mono ?_
 rintro e w1 ⟨rfl,g1⟩
 go_wp2_with fail
 refine (h2 _ g1).mono ?_
 rintro e w2 ⟨rfl,g2⟩
 have g:=g1.trans g2
 go_wp2
 all_goals go_ret
 all_goals refine ⟨ret_bool ?_,g⟩
 all_goals (simp;try omega)
theorem nameStarts_any (n:Nat) (hn:n ≤ 3) {w:World} {n₀ R:Nat} {raw l:List Int} (h:At n₀ w R raw l) :
  Calls Tryz.prog 233 #[.pointer (some ⟨R,0,none⟩),.int .i64 n] w fun e w' => e = .returned (.bool (nameStart (see l n) || escAt (l.drop n))) ∧ w.grownBy w' none:=by
 have h1:=ahead_any n (by omega) h
 have h2:=isNameStart_any (see l n)
 have h3:=fun w1 (g:w.grownBy w1 none) => escapes_any n hn (h.kept g)
 clear h
 generalize nameStart (see l n) = a at *
 generalize escAt (l.drop n) = b at *
 generalize see l n = c at *
 cases a with
 | true =>
  go_enter Tryz.func233,Tryz.ntmps233
  go_wp2_with fail
  refine h1.mono ?_
  rintro e w1 ⟨rfl,g1⟩
  go_wp2_with fail
  refine (h2 _).mono ?_
  rintro e w' ⟨rfl,rfl⟩
  go_wp2
  go_ret
  exact ⟨rfl,g1⟩
 | false =>
  go_enter Tryz.func233,Tryz.ntmps233
  go_wp2_with fail
  refine h1.mono ?_
  rintro e w1 ⟨rfl,g1⟩
  go_wp2_with fail
  refine (h2 _).mono ?_
  rintro e w' ⟨rfl,rfl⟩
  go_wp2_with fail
  refine (h3 _ g1).mono ?_
  rintro e w2 ⟨rfl,g2⟩
  go_wp2
  go_ret
  exact ⟨rfl,g1.trans g2⟩
theorem begName_eq (l:List Int) (n:Nat):begName (l.drop n) = if see l n = 45 then see l (n + 1) == 45 || (nameStart (see l (n + 1)) || escAt (l.drop (n + 1))) else nameStart (see l n) || escAt (l.drop n):=by
 unfold begName
 rw [see_drop,see_drop,Nat.add_zero,List.tail_drop]
 by_cases h:see l n = 45
 ·rw [if_pos (by simpa using h),if_pos h]
  cases nameStart (see l (n + 1)) <;> cases (see l (n + 1) == 45) <;> rfl
 ·rw [if_neg (by simpa using h),if_neg h]
set_option maxHeartbeats 1000000 in
theorem nameBegins_any (n:Nat) (hn:n ≤ 2) {w:World} {n₀ R:Nat} {raw l:List Int} (h:At n₀ w R raw l) :
  Calls Tryz.prog 194 #[.pointer (some ⟨R,0,none⟩),.int .i64 n] w fun e w' => e = .returned (.bool (begName (l.drop n))) ∧ w.grownBy w' none:=by
 have h1:=ahead_any n (by omega) h
 have h2:=fun w1 (g:w.grownBy w1 none) => nameStarts_any n (by omega) (h.kept g)
 have h3:∀ w1 (g:w.grownBy w1 none),Calls Tryz.prog 151 #[.pointer (some ⟨R,0,none⟩),.int .i64 ((n:Int) + 1)] w1 fun e w' => e = .returned (.int .i64 (see l (n + 1))) ∧ w1.grownBy w' none:=fun w1 g => ahead_any (n + 1) (by omega) (h.kept g)
 have h4:∀ w1 (g:w.grownBy w1 none),Calls Tryz.prog 233 #[.pointer (some ⟨R,0,none⟩),.int .i64 ((n:Int) + 1)] w1 fun e w' => e = .returned (.bool (nameStart (see l (n + 1)) || escAt (l.drop (n + 1)))) ∧ w1.grownBy w' none:=fun w1 g => nameStarts_any (n + 1) (by omega) (h.kept g)
 rw [begName_eq]
 clear h
 generalize (nameStart (see l n) || escAt (l.drop n)) = a at *
 generalize (nameStart (see l (n + 1)) || escAt (l.drop (n + 1))) = b at *
 generalize see l (n + 1) = d at *
 by_cases hc:see l n = 45
 ·rw [if_pos hc]
  rw [hc] at h1
  clear hc
  by_cases hd:d = 45
  ·subst hd
   go_enter Tryz.func194,Tryz.ntmps194
   go_wp2_with fail
   refine h1.mono ?_
   rintro e w1 ⟨rfl,g1⟩
   go_wp2_with fail
   refine (h3 _ g1).mono ?_
   rintro e w2 ⟨rfl,g2⟩
   go_wp2
   go_ret
   exact ⟨rfl,g1.trans g2⟩
  ·have hd':(d == 45) = false:=by simpa using hd
   rw [hd',Bool.false_or]
   go_enter Tryz.func194,Tryz.ntmps194
   go_wp2_with fail
   refine h1.mono ?_
   rintro e w1 ⟨rfl,g1⟩
   go_wp2_with fail
   refine (h3 _ g1).mono ?_
   rintro e w2 ⟨rfl,g2⟩
   go_wp2_with fail
   refine (h4 _ (g1.trans g2)).mono ?_
   rintro e w3 ⟨rfl,g3⟩
   go_wp2
   go_ret
   exact ⟨rfl,(g1.trans g2).trans g3⟩
 ·rw [if_neg hc]
  generalize see l n = c at *
  have hc':(c == 45) = false:=by simpa using hc
  go_enter Tryz.func194,Tryz.ntmps194
  go_wp2_with fail
  refine h1.mono ?_
  rintro e w1 ⟨rfl,g1⟩
  go_wp2_with fail
  refine (h2 _ g1).mono ?_
  rintro e w2 ⟨rfl,g2⟩
  go_wp2
  go_ret
  exact ⟨rfl,g1.trans g2⟩
theorem pointed_eq (l:List Int) (n:Nat):pointed (l.drop n) = (see l n == 46 && isDigit (see l (n + 1))):=by
 unfold pointed
 rw [see_drop,see_drop]
 rfl
set_option maxHeartbeats 1000000 in
theorem fractionBegins_any (n:Nat) (hn:n ≤ 2) {w:World} {n₀ R:Nat} {raw l:List Int} (h:At n₀ w R raw l) :
  Calls Tryz.prog 231 #[.pointer (some ⟨R,0,none⟩),.int .i64 n] w fun e w' => e = .returned (.bool (pointed (l.drop n))) ∧ w.grownBy w' none:=by
 have h1:=ahead_any n (by omega) h
 have h3:∀ w1 (g:w.grownBy w1 none),Calls Tryz.prog 151 #[.pointer (some ⟨R,0,none⟩),.int .i64 ((n:Int) + 1)] w1 fun e w' => e = .returned (.int .i64 (see l (n + 1))) ∧ w1.grownBy w' none:=fun w1 g => ahead_any (n + 1) (by omega) (h.kept g)
 have h4:=isDigit_any (see l (n + 1))
 rw [pointed_eq]
 clear h
 generalize isDigit (see l (n + 1)) = b at *
 generalize see l (n + 1) = d at *
 generalize see l n = c at *
 by_cases hc:c = 46
 ·subst hc
  go_enter Tryz.func231,Tryz.ntmps231
  go_wp2_with fail
  refine h1.mono ?_
  rintro e w1 ⟨rfl,g1⟩
  go_wp2_with fail
  refine (h3 _ g1).mono ?_
  rintro e w2 ⟨rfl,g2⟩
  go_wp2_with fail
  refine (h4 _).mono ?_
  rintro e w' ⟨rfl,rfl⟩
  go_wp2
  go_ret
  exact ⟨rfl,g1.trans g2⟩
 ·have hc':(c == 46) = false:=by simpa using hc
  rw [hc',Bool.false_and]
  go_enter Tryz.func231,Tryz.ntmps231
  go_wp2_with fail
  refine h1.mono ?_
  rintro e w1 ⟨rfl,g1⟩
  go_wp2
  go_ret
  exact ⟨rfl,g1⟩
theorem unsign_eq (l:List Int):unsign l = l.drop (if (see l 0 == 43 || see l 0 == 45) then 1 else 0):=by
 unfold unsign
 split
 ·rw [List.drop_one]
 ·rw [List.drop_zero]
set_option maxHeartbeats 1000000 in
theorem numberBegins_any {w:World} {n₀ R:Nat} {raw l:List Int} (h:At n₀ w R raw l) :
  Calls Tryz.prog 192 #[.pointer (some ⟨R,0,none⟩)] w fun e w' => e = .returned (.bool (begNum l)) ∧ w.grownBy w' none:=by
 have key:∀ n:Nat,n ≤ 1 → ∀ w1,w.grownBy w1 none → Calls Tryz.prog 151 #[.pointer (some ⟨R,0,none⟩),.int .i64 n] w1 fun e w' => e = .returned (.int .i64 (see l n)) ∧ w1.grownBy w' none:=fun n hn w1 g => ahead_any n (by omega) (h.kept g)
 have keyf:∀ n:Nat,n ≤ 1 → ∀ w1,w.grownBy w1 none → Calls Tryz.prog 231 #[.pointer (some ⟨R,0,none⟩),.int .i64 n] w1 fun e w' => e = .returned (.bool (pointed (l.drop n))) ∧ w1.grownBy w' none:=fun n hn w1 g => fractionBegins_any n (by omega) (h.kept g)
 have h0:=key 0 (by omega) w (World.grownBy.refl _ _)
 have hs:=isSign_any (see l 0)
 have e1:begNum l = (isDigit (see (unsign l) 0) || pointed (unsign l)):=rfl
 rw [e1,unsign_eq]
 clear e1 h
 generalize (see l 0 == 43 || see l 0 == 45) = s at *
 cases s with
 | true =>
  have k1:=key 1 (by omega)
  have kf:=keyf 1 (by omega)
  rw [if_pos rfl,see_drop]
  have hd:=isDigit_any (see l (1 + 0))
  rw [Nat.add_zero] at hd ⊢
  generalize see l 0 = c at *
  generalize isDigit (see l 1) = a at *
  generalize pointed (l.drop 1) = b at *
  generalize see l 1 = d at *
  cases a with
  | true =>
   go_enter Tryz.func192,Tryz.ntmps192
   go_wp2_with fail
   refine h0.mono ?_
   rintro e w1 ⟨rfl,g1⟩
   go_wp2_with fail
   refine (hs _).mono ?_
   rintro e w' ⟨rfl,rfl⟩
   go_wp2_with fail
   refine (k1 _ g1).mono ?_
   rintro e w2 ⟨rfl,g2⟩
   go_wp2_with fail
   refine (hd _).mono ?_
   rintro e w' ⟨rfl,rfl⟩
   go_wp2
   go_ret
   exact ⟨rfl,g1.trans g2⟩
  | false =>
   go_enter Tryz.func192,Tryz.ntmps192
   go_wp2_with fail
   refine h0.mono ?_
   rintro e w1 ⟨rfl,g1⟩
   go_wp2_with fail
   refine (hs _).mono ?_
   rintro e w' ⟨rfl,rfl⟩
   go_wp2_with fail
   refine (k1 _ g1).mono ?_
   rintro e w2 ⟨rfl,g2⟩
   go_wp2_with fail
   refine (hd _).mono ?_
   rintro e w' ⟨rfl,rfl⟩
   go_wp2_with fail
   refine (kf _ (g1.trans g2)).mono ?_
   rintro e w3 ⟨rfl,g3⟩
   go_wp2
   go_ret
   exact ⟨rfl,(g1.trans g2).trans g3⟩
 | false =>
  have k1:=key 0 (by omega)
  have kf:=keyf 0 (by omega)
  rw [if_neg (by decide),see_drop]
  have hd:=isDigit_any (see l (0 + 0))
  rw [Nat.add_zero] at hd ⊢
  generalize isDigit (see l 0) = a at *
  generalize pointed (l.drop 0) = b at *
  generalize see l 0 = d at *
  cases a with
  | true =>
   go_enter Tryz.func192,Tryz.ntmps192
   go_wp2_with fail
   refine h0.mono ?_
   rintro e w1 ⟨rfl,g1⟩
   go_wp2_with fail
   refine (hs _).mono ?_
   rintro e w' ⟨rfl,rfl⟩
   go_wp2_with fail
   refine (k1 _ g1).mono ?_
   rintro e w2 ⟨rfl,g2⟩
   go_wp2_with fail
   refine (hd _).mono ?_
   rintro e w' ⟨rfl,rfl⟩
   go_wp2
   go_ret
   exact ⟨rfl,g1.trans g2⟩
  | false =>
   go_enter Tryz.func192,Tryz.ntmps192
   go_wp2_with fail
   refine h0.mono ?_
   rintro e w1 ⟨rfl,g1⟩
   go_wp2_with fail
   refine (hs _).mono ?_
   rintro e w' ⟨rfl,rfl⟩
   go_wp2_with fail
   refine (k1 _ g1).mono ?_
   rintro e w2 ⟨rfl,g2⟩
   go_wp2_with fail
   refine (hd _).mono ?_
   rintro e w' ⟨rfl,rfl⟩
   go_wp2_with fail
   refine (kf _ (g1.trans g2)).mono ?_
   rintro e w3 ⟨rfl,g3⟩
   go_wp2
   go_ret
   exact ⟨rfl,(g1.trans g2).trans g3⟩
end Go.Proofs.YtagbjmocjaaioaaGreatDoor

/- package tok's reader: how it goes behind digits, white, line ends, escapes and comments. -/
namespace Go.Proofs.YtagbjmocjaaioaaGreatDoor
open Go Go.RowKit
/-! ### a token in a block of its own -/
def Five (W:World) (B:Nat) (a b c d e:Value):Prop:=W.heap[B]? = some (.cells #[a,b,c,d,e] 108 (0,0))
theorem Five.lt {W:World} {B:Nat} {a b c d e:Value} (h:Five W B a b c d e):B < W.heap.size:=(Array.getElem?_eq_some_iff.1 h).1
theorem Five.cells {W:World} {B:Nat} {a b c d e:Value} (h:Five W B a b c d e):W.cell? ⟨B,0,none⟩ = some a ∧ W.cell? ⟨B,1,none⟩ = some b ∧ W.cell? ⟨B,2,none⟩ = some c ∧ W.cell? ⟨B,3,none⟩ = some d ∧ W.cell? ⟨B,4,none⟩ = some e:=by
 simp [World.cell?,show W.heap[B]? = _ from h]
theorem Five.free {W:World} {B:Nat} {a b c d e:Value} (h:Five W B a b c d e):W.frozen? ⟨B,0,none⟩ = false ∧ W.frozen? ⟨B,1,none⟩ = false ∧ W.frozen? ⟨B,2,none⟩ = false ∧ W.frozen? ⟨B,3,none⟩ = false ∧ W.frozen? ⟨B,4,none⟩ = false:=by
 simp [World.frozen?,show W.heap[B]? = _ from h]
theorem Five.kept {W W':World} {row:Option Nat} {B:Nat} {a b c d e:Value} (h:Five W B a b c d e) (hg:W.grownBy W' row) (hne:some B ≠ row):Five W' B a b c d e:=(hg.block B h.lt hne).trans h
def setAll (W:World) (B:Nat) (a b c d e:Value):World:=((((W.setCell ⟨B,0,none⟩ a).setCell ⟨B,1,none⟩ b).setCell ⟨B,2,none⟩ c).setCell ⟨B,3,none⟩ d).setCell ⟨B,4,none⟩ e
theorem Five.set {W:World} {B:Nat} {a b c d e:Value} (h:Five W B a b c d e) (a' b' c' d' e':Value):Five (setAll W B a' b' c' d' e') B a' b' c' d' e':=by
 unfold Five at h ⊢
 simp [setAll,World.setCell,Array.getElem?_modify,h]
theorem grown_set (W:World) (b i:Nat) (v:Value):W.grownBy (W.setCell ⟨b,i,none⟩ v) (some b):=
 ⟨rfl,rfl,rfl,by simp [World.setCell],fun i _ hne => Below.heap_setCell _ _ _ _ (fun e => hne (by rw [e]))⟩
theorem grown_setAll (W:World) (B:Nat) (a b c d e:Value):W.grownBy (setAll W B a b c d e) (some B):=
 ((((grown_set _ _ _ _).trans (grown_set _ _ _ _)).trans (grown_set _ _ _ _)).trans (grown_set _ _ _ _)).trans (grown_set _ _ _ _)
theorem infoTok:(Tryz.prog.info? 108).map (·.size) = some 5:=by kernel_rfl
theorem Five.new (w:World) (a b c d e:Value):Five (w.alloc (.cells #[a,b,c,d,e] 108)) w.heap.size a b c d e:=heap_alloc_new w _
theorem Five.ret {W:World} {B:Nat} {a b c d e:Value} (h:Five W B a b c d e) {fn:Func} {p:Tmp} (hf:fn.results = #[.cell p 108]) (tmps:Array Value) (hp:tmps.getD p undef = .pointer (some ⟨B,0,none⟩)) :
  (results fn tmps).run Tryz.prog W = .ok (.agg #[a,b,c,d,e]) W:=
 results_cell_row hf tmps W B _ _ _ _ hp h Tryz.underlying108 rfl infoTok
theorem grown_out {w W X:World} {R B:Nat} (h:w.grownBy W (some R)) (hB:w.heap.size ≤ B) (hg:W.grownBy X (some B)):w.grownBy X (some R):=
 h.andThen hg (fun j e => by cases e;exact .inl hB)
def placeOf (W:World) (R:Nat):Nat:=match W.cell? ⟨R,1,none⟩ with
 | some (.int _ a) => a.toNat
 | _ => 0
theorem Rd.placeOf {W:World} {n₀ R:Nat} {v:Value} {raw:List Int} {a:Nat} (h:Rd n₀ W R v raw a):placeOf W R = a:=by
 unfold Go.Proofs.YtagbjmocjaaioaaGreatDoor.placeOf
 rw [h.pair.c1]
 simp
theorem At.kept_other {W W':World} {n₀ R B:Nat} {raw l:List Int} (h:At n₀ W R raw l) (hg:W.grownBy W' (some B)) (hB:R < B):At n₀ W' R raw l:=by
 obtain ⟨v,a,hr,e⟩:=h
 exact ⟨v,a,⟨hr.pair.kept hg (by simp;omega),hr.ints.below (((Below.refl R W).grown hg (Nat.le_of_lt hr.pair.lt) (fun r e => by cases e;omega)).mono hr.low),hr.low,hr.least,hr.most⟩,e⟩
theorem At.open' {W:World} {n₀ R:Nat} {raw l:List Int} (h:At n₀ W R raw l) (hne:l ≠ []):∃ a:Nat,W.cell? ⟨R,1,none⟩ = some (.int .i64 a) ∧ W.frozen? ⟨R,1,none⟩ = false ∧ a ≤ 1000000 ∧ placeOf W R = a ∧
  (At n₀ (W.setCell ⟨R,1,none⟩ (.int .i64 ((a:Int) + 1))) R raw l.tail ∧ placeOf (W.setCell ⟨R,1,none⟩ (.int .i64 ((a:Int) + 1))) R = a + 1) ∧
  (l.tail ≠ [] → At n₀ (W.setCell ⟨R,1,none⟩ (.int .i64 ((a:Int) + 2))) R raw l.tail.tail):=by
 obtain ⟨v,a,hr,rfl⟩:=h
 have hlt:a < raw.length:=by
  have:=List.length_pos_iff.2 hne
  rw [List.length_drop,List.length_map] at this
  omega
 have hm:=hr.most
 have h1:=hr.set (a + 1) (by omega)
 refine ⟨a,hr.pair.c1,hr.pair.f1,by omega,hr.placeOf,⟨⟨v,a + 1,h1,by rw [List.tail_drop]⟩,h1.placeOf⟩,fun h2 => ?_⟩
 have hl2:=List.length_pos_iff.2 h2
 rw [List.length_tail,List.length_drop,List.length_map] at hl2
 exact ⟨v,a + 2,hr.set (a + 2) (by omega),by rw [List.tail_drop,List.tail_drop]⟩
theorem placeOf_kept {W W':World} {n₀ R:Nat} {raw l:List Int} (h:At n₀ W R raw l) (hg:W.grownBy W' none) {a:Nat} (hp:placeOf W' R = a):placeOf W R = a:=by
 obtain ⟨v,b,hr,_⟩:=h
 rw [hr.placeOf,← hp,(hr.kept hg).placeOf]
set_option maxHeartbeats 1000000 in
theorem passDigits_any {w:World} {n₀ R:Nat} {raw l:List Int} (h:At n₀ w R raw l) :
  Calls Tryz.prog 266 #[.pointer (some ⟨R,0,none⟩)] w fun e w' => e = .returned (.tuple #[]) ∧ At n₀ w' R raw (l.dropWhile isDigit) ∧ w.grownBy w' (some R):=by
 go_enter Tryz.func266,Tryz.ntmps266
 go_wp2
 go_loopw [] (fun wr => ∃ l',At n₀ wr R raw l' ∧ l'.dropWhile isDigit = l.dropWhile isDigit ∧ w.grownBy wr (some R)) (fun wr => 1000002 - placeOf wr R)
 case atStart => exact ⟨l,h,rfl,World.grownBy.refl _ _⟩
 case round =>
  obtain ⟨l',h',e',g'⟩:=hrel
  have h1:=ahead_any 0 (by omega) h'
  have h2:=isDigit_any (see l' 0)
  cases hd:isDigit (see l' 0) with
  | false =>
   have he:l'.dropWhile isDigit = l':=by
    cases l' with
    | nil => rfl
    | cons c r => rw [see_zero] at hd;rw [List.dropWhile_cons,hd];rfl
   rw [hd] at h2
   generalize see l' 0 = c at *
   clear hd
   go_wp2_with fail
   refine h1.mono ?_
   rintro e w1 ⟨rfl,g1⟩
   go_wp2_with fail
   refine (h2 _).mono ?_
   rintro e w' ⟨rfl,rfl⟩
   go_wp2
   go_end0
   rw [← e',he]
   exact ⟨rfl,h'.kept g1,g'.trans (grown_but g1 _)⟩
  | true =>
   have hne:l' ≠ []:=fun e => by rw [e] at hd;exact absurd hd (by decide)
   have he:l'.tail.dropWhile isDigit = l'.dropWhile isDigit:=by
    cases l' with
    | nil => rfl
    | cons c r => rw [see_zero] at hd;rw [List.dropWhile_cons,hd];rfl
   rw [hd] at h2
   generalize see l' 0 = c at *
   clear hd
   go_wp2_with fail
   refine h1.mono ?_
   rintro e w1 ⟨rfl,g1⟩
   obtain ⟨a,c1,f1,ha,hp,⟨k1,k2⟩,_⟩:=(h'.kept g1).open' hne
   have hp':placeOf wr R = a:=placeOf_kept h' g1 hp
   clear h1
   go_wp2_with fail
   refine (h2 _).mono ?_
   rintro e w' ⟨rfl,rfl⟩
   go_wp2
   exact ⟨⟨_,k1,he.trans e',(g'.trans (grown_but g1 _)).trans (grown_set1 _ _ _)⟩,by rw [k2,hp'];omega⟩
set_option maxHeartbeats 1000000 in
theorem white_any {w:World} {n₀ R:Nat} {raw l:List Int} (h:At n₀ w R raw l) :
  Calls Tryz.prog 187 #[.pointer (some ⟨R,0,none⟩)] w fun e w' => e = .returned (.agg #[.int .i64 9,.string ⟨#[]⟩,.int .i64 0,.bool false,.int .i64 0]) ∧ At n₀ w' R raw (l.dropWhile isWhite) ∧ w.grownBy w' (some R):=by
 have hR:=h.lt
 go_enter Tryz.func187,Tryz.ntmps187
 go_wp2
 have t0:=Five.new w (.int .i64 0) (.string ⟨#[]⟩) (.int .i64 0) (.bool false) (.int .i64 0)
 have g0:w.grownBy (w.alloc (.cells #[.int .i64 0,.string ⟨#[]⟩,.int .i64 0,.bool false,.int .i64 0] 108)) none:=World.grownBy_alloc _ _ _
 go_loopw [] (fun wr => ∃ l',At n₀ wr R raw l' ∧ l'.dropWhile isWhite = l.dropWhile isWhite ∧ w.grownBy wr (some R) ∧ Five wr w.heap.size (.int .i64 0) (.string ⟨#[]⟩) (.int .i64 0) (.bool false) (.int .i64 0)) (fun wr => 1000002 - placeOf wr R)
 case atStart => exact ⟨l,h.kept g0,rfl,grown_but g0 _,t0⟩
 case round =>
  obtain ⟨l',h',e',g',t'⟩:=hrel
  have h1:=ahead_any 0 (by omega) h'
  have h2:=isWhite_any (see l' 0)
  clear t0 g0
  cases hd:isWhite (see l' 0) with
  | false =>
   have he:l'.dropWhile isWhite = l':=by
    cases l' with
    | nil => rfl
    | cons c r => rw [see_zero] at hd;rw [List.dropWhile_cons,hd];rfl
   rw [hd] at h2
   generalize see l' 0 = c at *
   clear hd
   go_wp2_with fail
   refine h1.mono ?_
   rintro e w1 ⟨rfl,g1⟩
   have t1:=t'.kept g1 (by simp)
   obtain ⟨c0,c1,c2,c3,c4⟩:=t1.cells
   obtain ⟨f0,f1,f2,f3,f4⟩:=t1.free
   go_wp2_with fail
   refine (h2 _).mono ?_
   rintro e w' ⟨rfl,rfl⟩
   go_wp2
   refine bodyPost_ret ((t1.set _ _ _ _ _).ret rfl _ rfl) rfl ?_
   rw [← e',he]
   exact ⟨rfl,(h'.kept g1).kept_other (grown_setAll _ _ _ _ _ _ _) hR,grown_out (g'.trans (grown_but g1 _)) (Nat.le_refl _) (grown_setAll _ _ _ _ _ _ _)⟩
  | true =>
   have hne:l' ≠ []:=fun e => by rw [e] at hd;exact absurd hd (by decide)
   have he:l'.tail.dropWhile isWhite = l'.dropWhile isWhite:=by
    cases l' with
    | nil => rfl
    | cons c r => rw [see_zero] at hd;rw [List.dropWhile_cons,hd];rfl
   rw [hd] at h2
   generalize see l' 0 = c at *
   clear hd
   go_wp2_with fail
   refine h1.mono ?_
   rintro e w1 ⟨rfl,g1⟩
   have t1:=t'.kept g1 (by simp)
   obtain ⟨a,c1,f1,ha,hp,⟨k1,k2⟩,_⟩:=(h'.kept g1).open' hne
   have hp':placeOf wr R = a:=placeOf_kept h' g1 hp
   clear h1
   go_wp2_with fail
   refine (h2 _).mono ?_
   rintro e w' ⟨rfl,rfl⟩
   go_wp2
   exact ⟨⟨_,k1,he.trans e',(g'.trans (grown_but g1 _)).trans (grown_set1 _ _ _),t1.kept (grown_set1 _ _ _) (by simp;omega)⟩,by rw [k2,hp'];omega⟩
end Go.Proofs.YtagbjmocjaaioaaGreatDoor

/- package tok's reader: line ends in strings, escapes, comments. -/
namespace Go.Proofs.YtagbjmocjaaioaaGreatDoor
open Go Go.RowKit
set_option maxHeartbeats 1000000 in
theorem passLineEnd_any {w:World} {n₀ R:Nat} {raw r:List Int} {c:Int} (h:At n₀ w R raw (c :: r)) :
  Calls Tryz.prog 225 #[.pointer (some ⟨R,0,none⟩)] w fun e w' => e = .returned (.tuple #[]) ∧ At n₀ w' R raw (if see r 0 = 10 then r.tail else r) ∧ w.grownBy w' (some R):=by
 obtain ⟨a,c1,f1,ha,_,⟨k1,_⟩,_⟩:=h.open' (by simp)
 have g1:=grown_set1 w R (.int .i64 ((a:Int) + 1))
 replace k1:At n₀ _ R raw r:=k1
 clear h
 go_enter Tryz.func225,Tryz.ntmps225
 go_wp2_with fail
 have h1:=ahead_any 0 (by omega) k1
 generalize w.setCell ⟨R,1,none⟩ (.int .i64 ((a:Int) + 1)) = w1 at *
 clear c1 f1
 refine h1.mono ?_
 rintro e w2 ⟨rfl,g2⟩
 have k2:=k1.kept g2
 by_cases hd:see r 0 = 10
 ·rw [hd]
  have hne:r ≠ []:=fun e => by rw [e] at hd;revert hd;decide
  clear h1
  obtain ⟨b,c2,f2,hb,_,⟨k3,_⟩,_⟩:=k2.open' hne
  go_wp2
  go_returns
  exact ⟨rfl,k3,(g1.trans (grown_but g2 _)).trans (grown_set1 _ _ _)⟩
 ·have hd':(see r 0 == 10) = false:=by simpa using hd
  clear h1
  go_wp2
  go_returns
  exact ⟨rfl,k2,g1.trans (grown_but g2 _)⟩
theorem hexRun_stop (k:Nat) (v:Int) {l:List Int} (h:isHex (see l 0) = false):hexRun k v l = (v,l):=by
 have h':¬ 0 ≤ hexv (see l 0):=fun e => by rw [isHex_iff.2 e] at h;cases h
 cases k with
 | zero => rfl
 | succ k =>
  cases l with
  | nil => rfl
  | cons c r =>
   rw [see_zero] at h'
   rw [hexRun,if_neg h']
theorem hexRun_go (k:Nat) (v:Int) {l:List Int} (h:isHex (see l 0) = true):hexRun (k + 1) v l = hexRun k (v * 16 + hexv (see l 0)) l.tail:=by
 cases l with
 | nil => exact absurd h (by decide)
 | cons c r =>
  rw [see_zero] at h ⊢
  rw [hexRun,if_pos (isHex_iff.1 h)]
  rfl
theorem hexv_le (c:Int):hexv c ≤ 15:=by
 unfold hexv
 repeat' split
 all_goals omega
set_option maxHeartbeats 2000000 in
theorem hexNumber_any {w:World} {n₀ R:Nat} {raw l:List Int} (h:At n₀ w R raw l) :
  Calls Tryz.prog 264 #[.pointer (some ⟨R,0,none⟩)] w fun e w' => e = .returned (.int .i64 (hexRun 6 0 l).1) ∧ At n₀ w' R raw (hexRun 6 0 l).2 ∧ w.grownBy w' (some R) ∧ 0 ≤ (hexRun 6 0 l).1 ∧ (hexRun 6 0 l).1 ≤ 16777215:=by
 go_enter Tryz.func264,Tryz.ntmps264
 go_wp2
 go_loopw [3,6] (fun n i wr => ∃ (k v:Nat) (l':List Int),n = .int .i64 v ∧ i = .int .i64 k ∧ k ≤ 6 ∧ v < 16 ^ k ∧ At n₀ wr R raw l' ∧ hexRun (6 - k) v l' = hexRun 6 0 l ∧ w.grownBy wr (some R)) (fun _ i _ => 6 - (intOf i).toNat)
 case atStart => exact ⟨0,0,l,rfl,rfl,by omega,by decide,h,rfl,World.grownBy.refl _ _⟩
 case round =>
  obtain ⟨k,v,l',rfl,rfl,hk,hv,h',e',g'⟩:=hrel
  have hv6:v < 16777216:=Nat.lt_of_lt_of_le hv (Nat.pow_le_pow_right (by decide) hk)
  by_cases hlt:k < 6
  ·have hki:(k:Int) < 6:=by omega
   have h1:=ahead_any 0 (by omega) h'
   have h2:=hexDigit_any (see l' 0)
   cases hx:isHex (see l' 0) with
   | false =>
    rw [hexRun_stop _ _ hx] at e'
    rw [hx] at h2
    generalize see l' 0 = c at *
    clear hx
    go_wp2_with fail
    refine h1.mono ?_
    rintro e w1 ⟨rfl,g1⟩
    go_wp2_with fail
    refine (h2 _).mono ?_
    rintro e w' ⟨rfl,rfl⟩
    go_wp2
    go_ret
    rw [← e']
    exact ⟨rfl,h'.kept g1,g'.trans (grown_but g1 _),by simp only;omega,by simp only;omega⟩
   | true =>
    have hne:l' ≠ []:=fun e => by rw [e] at hx;exact absurd hx (by decide)
    have e6:6 - k = (6 - (k + 1)) + 1:=by omega
    rw [e6,hexRun_go _ _ hx] at e'
    have h0:=isHex_iff.1 hx
    have h15:=hexv_le (see l' 0)
    have hor:hexOr (see l' 0) = hexv (see l' 0):=by unfold hexOr;rw [if_pos h0]
    rw [hx,hor] at h2
    obtain ⟨d,hd⟩:=Int.eq_ofNat_of_zero_le h0
    rw [hd] at h2 e' h15
    clear hor h0 hd e6 hx
    generalize see l' 0 = c at *
    have hpow:16 ^ (k + 1) = 16 ^ k * 16:=Nat.pow_succ ..
    have ev:(v:Int) * 16 + (d:Int) = ((16 * v + d:Nat):Int):=by omega
    rw [ev] at e'
    clear ev
    go_wp2_with fail
    refine h1.mono ?_
    rintro e w1 ⟨rfl,g1⟩
    obtain ⟨a,c1,f1,ha,_,⟨k1,_⟩,_⟩:=(h'.kept g1).open' hne
    clear h1
    go_wp2_with fail
    refine (h2 _).mono ?_
    rintro e w' ⟨rfl,rfl⟩
    go_wp2
    refine ⟨⟨k + 1,16 * v + d,_,by go_num,by go_num,by omega,by omega,k1,e',(g'.trans (grown_but g1 _)).trans (grown_set1 _ _ _)⟩,by simp [intOf];omega⟩
  ·have hki:¬ (k:Int) < 6:=by omega
   obtain rfl:k = 6:=by omega
   have e'':((v:Int),l') = hexRun 6 0 l:=e'
   go_wp2
   go_ret
   rw [← e'']
   exact ⟨rfl,h',g',by simp only;omega,by simp only;omega⟩
theorem hexPoint_eq {n:Int} (h0:0 ≤ n):hexPoint n = if n = 0 then 65533 else fixC n:=by
 unfold hexPoint
 by_cases hz:n = 0
 ·rw [if_pos (.inl hz),if_pos hz]
 ·rw [if_neg hz]
  by_cases hr:1114111 < n ∨ (55296 ≤ n ∧ n ≤ 57343)
  ·rw [if_pos (by omega),fixC_no (rightB_false (by omega))]
  ·rw [if_neg (by omega),fixC_yes (rightB_true (by omega))]
set_option maxHeartbeats 2000000 in
theorem escape_any {w:World} {n₀ R:Nat} {raw r:List Int} {c:Int} (h:At n₀ w R raw (c :: r)) (hr:r ≠ []) :
  Calls Tryz.prog 224 #[.pointer (some ⟨R,0,none⟩)] w fun e w' => e = .returned (.int .i64 (escd (c :: r)).1) ∧ At n₀ w' R raw (escd (c :: r)).2 ∧ w.grownBy w' (some R):=by
 obtain ⟨a,c1,f1,ha,_,⟨k1,_⟩,_⟩:=h.open' (by simp)
 have g1:=grown_set1 w R (.int .i64 ((a:Int) + 1))
 replace k1:At n₀ _ R raw r:=k1
 clear h
 have e1:see (c :: r) 1 = see r 0:=see_succ _ _ _
 have et:(c :: r).tail = r:=rfl
 go_enter Tryz.func224,Tryz.ntmps224
 go_wp2_with fail
 have h1:=ahead_any 0 (by omega) k1
 have h2:=hexDigit_any (see r 0)
 generalize w.setCell ⟨R,1,none⟩ (.int .i64 ((a:Int) + 1)) = w1 at *
 clear c1 f1
 refine h1.mono ?_
 clear h1
 rintro e w2 ⟨rfl,g2⟩
 have k2:=k1.kept g2
 have g12:=g1.trans (grown_but g2 _)
 clear k1 g1 g2
 cases hx:isHex (see r 0) with
 | false =>
  have hn:hexv (see r 0) < 0:=by
   have:¬ 0 ≤ hexv (see r 0):=fun e => by rw [isHex_iff.2 e] at hx;cases hx
   omega
  have ee:Hid (escd (c :: r) = (see r 0,(c :: r).drop 2)):=by show _ = _;unfold escd;rw [e1,if_pos hn]
  rw [hx] at h2
  obtain ⟨d,r',rfl⟩:=List.exists_cons_of_ne_nil hr
  have h3:=take_any k2
  rw [see_zero] at h2
  clear e1 et hn hx
  rw [see_zero]
  go_wp2_with fail
  refine (h2 _).mono ?_
  rintro e w' ⟨rfl,rfl⟩
  go_wp2_with fail
  refine h3.mono ?_
  rintro e w3 ⟨rfl,k3,g3⟩
  go_wp2
  go_ret
  rw [show escd (c :: d :: r') = _ from ee]
  exact ⟨rfl,k3,g12.trans g3⟩
 | true =>
  have hn:¬ hexv (see r 0) < 0:=by have:=isHex_iff.1 hx;omega
  have ee:Hid (escd (c :: r) = (hexPoint (hexRun 6 0 r).1,if isWhite (see (hexRun 6 0 r).2 0) then (hexRun 6 0 r).2.tail else (hexRun 6 0 r).2)):=by show _ = _;unfold escd;rw [e1,if_neg hn,et]
  rw [hx] at h2
  have h3:=hexNumber_any k2
  generalize (hexRun 6 0 r).1 = v at *
  generalize (hexRun 6 0 r).2 = l' at *
  generalize hexOr (see r 0) = o at *
  clear e1 et hn hx
  generalize see r 0 = d at *
  go_wp2_with fail
  refine (h2 _).mono ?_
  rintro e w' ⟨rfl,rfl⟩
  go_wp2_with fail
  refine h3.mono ?_
  clear h3
  rintro e w3 ⟨rfl,k3,g3,hv0,hv1⟩
  have h4:=ahead_any 0 (by omega) k3
  have h5:=isWhite_any (see l' 0)
  have h6:=settled_any v
  go_wp2_with fail
  refine h4.mono ?_
  clear h4
  rintro e w4 ⟨rfl,g4⟩
  have k4:=k3.kept g4
  have g14:=(g12.trans g3).trans (grown_but g4 _)
  cases hw:isWhite (see l' 0) with
  | false =>
   have ef:Hid (escd (c :: r) = (hexPoint v,l')):=by show _ = _;rw [show escd (c :: r) = _ from ee,hw];rfl
   rw [hw] at h5
   clear ee hw
   generalize see l' 0 = x at *
   by_cases hz:v = 0
   ·have HQ:Hid (hexPoint v = 65533):=by show _ = _;rw [hexPoint_eq hv0,if_pos hz]
    subst hz
    go_wp2_with fail
    refine (h5 _).mono ?_
    rintro e w' ⟨rfl,rfl⟩
    go_wp2
    go_ret
    rw [show escd (c :: r) = _ from ef,show hexPoint _ = _ from HQ]
    exact ⟨rfl,k4,g14⟩
   ·have HQ:Hid (hexPoint v = fixC v):=by show _ = _;rw [hexPoint_eq hv0,if_neg hz]
    have hz':(v == 0) = false:=by simpa using hz
    go_wp2_with fail
    refine (h5 _).mono ?_
    rintro e w' ⟨rfl,rfl⟩
    go_wp2_with fail
    refine (h6 _).mono ?_
    rintro e w' ⟨rfl,rfl⟩
    go_wp2
    go_ret
    rw [show escd (c :: r) = _ from ef,show hexPoint _ = _ from HQ]
    exact ⟨rfl,k4,g14⟩
  | true =>
   have hne:l' ≠ []:=fun e => by rw [e] at hw;exact absurd hw (by decide)
   have ef:Hid (escd (c :: r) = (hexPoint v,l'.tail)):=by show _ = _;rw [show escd (c :: r) = _ from ee,hw];rfl
   rw [hw] at h5
   clear ee hw
   generalize see l' 0 = x at *
   obtain ⟨b,c2,f2,hb,_,⟨k5,_⟩,_⟩:=k4.open' hne
   by_cases hz:v = 0
   ·have HQ:Hid (hexPoint v = 65533):=by show _ = _;rw [hexPoint_eq hv0,if_pos hz]
    subst hz
    go_wp2_with fail
    refine (h5 _).mono ?_
    rintro e w' ⟨rfl,rfl⟩
    go_wp2
    go_ret
    rw [show escd (c :: r) = _ from ef,show hexPoint _ = _ from HQ]
    exact ⟨rfl,k5,g14.trans (grown_set1 _ _ _)⟩
   ·have HQ:Hid (hexPoint v = fixC v):=by show _ = _;rw [hexPoint_eq hv0,if_neg hz]
    have hz':(v == 0) = false:=by simpa using hz
    go_wp2_with fail
    refine (h5 _).mono ?_
    rintro e w' ⟨rfl,rfl⟩
    go_wp2_with fail
    refine (h6 _).mono ?_
    rintro e w' ⟨rfl,rfl⟩
    go_wp2
    go_ret
    rw [show escd (c :: r) = _ from ef,show hexPoint _ = _ from HQ]
    exact ⟨rfl,k5,g14.trans (grown_set1 _ _ _)⟩
set_option maxHeartbeats 2000000 in
theorem passComment_any {w:World} {n₀ R:Nat} {raw l:List Int} (h:At n₀ w R raw l) :
  Calls Tryz.prog 184 #[.pointer (some ⟨R,0,none⟩)] w fun e w' => e = .returned (.tuple #[]) ∧ At n₀ w' R raw (skipC l) ∧ w.grownBy w' (some R):=by
 go_enter Tryz.func184,Tryz.ntmps184
 go_wp2
 go_loopw [] (fun wr => ∃ l',At n₀ wr R raw l' ∧ skipC l' = skipC l ∧ w.grownBy wr (some R)) (fun wr => 1000002 - placeOf wr R)
 case atStart => exact ⟨l,h,rfl,World.grownBy.refl _ _⟩
 case round =>
  obtain ⟨l',h',e',g'⟩:=hrel
  have h1:=ahead_any 0 (by omega) h'
  have h2:=fun w1 (g:wr.grownBy w1 none) => ahead_any 0 (by omega) (h'.kept g)
  have h3:=fun w1 (g:wr.grownBy w1 none) => ahead_any 1 (by omega) (h'.kept g)
  cases l' with
  | nil =>
   rw [see_nil] at h1
   go_wp2_with fail
   refine h1.mono ?_
   rintro e w1 ⟨rfl,g1⟩
   go_wp2
   go_returns
   rw [← e']
   exact ⟨rfl,h'.kept g1,g'.trans (grown_but g1 _)⟩
  | cons c r =>
   rw [see_zero] at h1
   simp only [see_zero] at h2
   simp only [see_succ] at h3
   have hc:(c == -1) = false:=by
    rcases h'.see_ge 0 with e | e
    ·obtain ⟨v,a,hr,ee⟩:=h'
     rw [see_zero] at e
     have:c ∈ raw.map fixC:=List.mem_of_mem_drop (ee ▸ List.mem_cons_self ..)
     obtain ⟨x,_,rfl⟩:=List.mem_map.1 this
     have:=(fixC_right x).1
     omega
    ·rw [see_zero] at e
     simp
     omega
   have hsk:skipC (c :: r) = if c = 42 ∧ see r 0 = 47 then r.tail else skipC r:=rfl
   have hrne:see r 0 = 47 → r ≠ []:=fun e e2 => by rw [e2] at e;revert e;decide
   generalize see r 0 = d at *
   by_cases hcd:c = 42 ∧ d = 47
   ·obtain ⟨rfl,rfl⟩:=hcd
    replace hrne:r ≠ []:=hrne rfl
    rw [if_pos ⟨rfl,rfl⟩] at hsk
    rw [hsk] at e'
    clear hsk
    go_wp2_with fail
    refine h1.mono ?_
    rintro e w1 ⟨rfl,g1⟩
    go_wp2_with fail
    refine (h2 _ g1).mono ?_
    rintro e w2 ⟨rfl,g2⟩
    have g12:=g1.trans g2
    go_wp2_with fail
    refine (h3 _ g12).mono ?_
    rintro e w3 ⟨rfl,g3⟩
    have g13:=g12.trans g3
    obtain ⟨a,c1,f1,ha,_,_,k1⟩:=(h'.kept g13).open' (by simp)
    replace k1:=k1 hrne
    go_wp2
    go_returns
    rw [← e']
    exact ⟨rfl,k1,(g'.trans (grown_but g13 _)).trans (grown_set1 _ _ _)⟩
   ·rw [if_neg hcd] at hsk
    rw [hsk] at e'
    clear hsk
    by_cases hc42:c = 42
    ·subst hc42
     have hd:(d == 47) = false:=by simp;omega
     clear hcd hc
     go_wp2_with fail
     refine h1.mono ?_
     rintro e w1 ⟨rfl,g1⟩
     go_wp2_with fail
     refine (h2 _ g1).mono ?_
     rintro e w2 ⟨rfl,g2⟩
     have g12:=g1.trans g2
     go_wp2_with fail
     refine (h3 _ g12).mono ?_
     rintro e w3 ⟨rfl,g3⟩
     have g13:=g12.trans g3
     obtain ⟨a,c1,f1,ha,hp,⟨k1,k2⟩,_⟩:=(h'.kept g13).open' (by simp)
     have hp':placeOf wr R = a:=placeOf_kept h' g13 hp
     go_wp2
     exact ⟨⟨_,k1,e',(g'.trans (grown_but g13 _)).trans (grown_set1 _ _ _)⟩,by rw [k2,hp'];omega⟩
    ·have hc42':(c == 42) = false:=by simpa using hc42
     clear hcd
     go_wp2_with fail
     refine h1.mono ?_
     rintro e w1 ⟨rfl,g1⟩
     go_wp2_with fail
     refine (h2 _ g1).mono ?_
     rintro e w2 ⟨rfl,g2⟩
     have g12:=g1.trans g2
     obtain ⟨a,c1,f1,ha,hp,⟨k1,k2⟩,_⟩:=(h'.kept g12).open' (by simp)
     have hp':placeOf wr R = a:=placeOf_kept h' g12 hp
     go_wp2
     exact ⟨⟨_,k1,e',(g'.trans (grown_but g12 _)).trans (grown_set1 _ _ _)⟩,by rw [k2,hp'];omega⟩
def lenOf (raw:List Int) (W:World) (R:Nat):Nat:=raw.length - placeOf W R
theorem At.lenOf {W:World} {n₀ R:Nat} {raw l:List Int} (h:At n₀ W R raw l):lenOf raw W R = l.length:=by
 obtain ⟨v,a,hr,rfl⟩:=h
 unfold Go.Proofs.YtagbjmocjaaioaaGreatDoor.lenOf
 rw [hr.placeOf,List.length_drop,List.length_map]
set_option maxHeartbeats 2000000 in
theorem passComments_any {w:World} {n₀ R:Nat} {raw l:List Int} (h:At n₀ w R raw l) :
  Calls Tryz.prog 150 #[.pointer (some ⟨R,0,none⟩)] w fun e w' => e = .returned (.tuple #[]) ∧ ∃ l',At n₀ w' R raw l' ∧ (∀ nv,toks nv l' = toks nv l) ∧ ¬ (see l' 0 = 47 ∧ see l' 1 = 42) ∧ l'.length ≤ l.length ∧ w.grownBy w' (some R):=by
 go_enter Tryz.func150,Tryz.ntmps150
 go_wp2
 go_loopw [] (fun wr => ∃ l',At n₀ wr R raw l' ∧ (∀ nv,toks nv l' = toks nv l) ∧ l'.length ≤ l.length ∧ w.grownBy wr (some R)) (fun wr => lenOf raw wr R)
 case atStart => exact ⟨l,h,fun _ => rfl,Nat.le_refl _,World.grownBy.refl _ _⟩
 case round =>
  obtain ⟨l',h',e',hl',g'⟩:=hrel
  have hm:=h'.lenOf
  have h1:=ahead_any 0 (by omega) h'
  have h3:=fun w1 (g:wr.grownBy w1 none) => ahead_any 1 (by omega) (h'.kept g)
  by_cases hcd:see l' 0 = 47 ∧ see l' 1 = 42
  ·obtain ⟨r,rfl⟩:∃ r,l' = 47 :: 42 :: r:=by
    match l',hcd with
    | [],hcd => exact absurd hcd.1 (by decide)
    | [x],hcd => exact absurd hcd.2 (by simp [see])
    | x :: y :: r,hcd =>
     rw [see_zero,see_succ,see_zero] at hcd
     exact ⟨r,by rw [hcd.1,hcd.2]⟩
   have hlen:=skipC_len r
   have e2:∀ nv,toks nv (skipC r) = toks nv l:=fun nv => by rw [← toks_comment];exact e' nv
   rw [see_zero] at h1
   simp only [see_succ,see_zero] at h3
   clear hcd e'
   go_wp2_with fail
   refine h1.mono ?_
   rintro e w1 ⟨rfl,g1⟩
   go_wp2_with fail
   refine (h3 _ g1).mono ?_
   rintro e w2 ⟨rfl,g2⟩
   have g12:=g1.trans g2
   obtain ⟨a,c1,f1,ha,_,_,k1⟩:=(h'.kept g12).open' (by simp)
   replace k1:At n₀ _ R raw r:=k1 (by simp)
   have g3:=(g'.trans (grown_but g12 _)).trans (grown_set1 w2 R (.int .i64 ((a:Int) + 2)))
   have h4:=passComment_any k1
   go_wp2_with fail
   refine h4.mono ?_
   rintro e w4 ⟨rfl,k4,g4⟩
   have hm4:=k4.lenOf
   go_wp2
   refine ⟨⟨_,k4,e2,?_,g3.trans g4⟩,?_⟩
   ·simp only [List.length_cons] at hl'
    omega
   ·rw [hm,hm4]
    simp only [List.length_cons]
    omega
  ·have hfin:=hcd
   by_cases hc:see l' 0 = 47
   ·have hd:(see l' 1 == 42) = false:=by simp;omega
    rw [hc] at h1
    have HF:Hid (¬ (see l' 0 = 47 ∧ see l' 1 = 42)):=hfin
    clear hcd hc hfin
    go_wp2_with fail
    refine h1.mono ?_
    rintro e w1 ⟨rfl,g1⟩
    go_wp2_with fail
    refine (h3 _ g1).mono ?_
    rintro e w2 ⟨rfl,g2⟩
    have g12:=g1.trans g2
    go_wp2
    go_returns
    exact ⟨rfl,l',h'.kept g12,e',HF,hl',g'.trans (grown_but g12 _)⟩
   ·have hd:(see l' 0 == 47) = false:=by simpa using hc
    have HF:Hid (¬ (see l' 0 = 47 ∧ see l' 1 = 42)):=hfin
    clear hcd hc hfin
    go_wp2_with fail
    refine h1.mono ?_
    rintro e w1 ⟨rfl,g1⟩
    go_wp2
    go_returns
    exact ⟨rfl,l',h'.kept g1,e',HF,hl',g'.trans (grown_but g1 _)⟩
end Go.Proofs.YtagbjmocjaaioaaGreatDoor

/- package tok's reader: texts of code points, names, strings. -/
set_option maxRecDepth 100000
namespace Go.Proofs.YtagbjmocjaaioaaGreatDoor
open Go Go.RowKit Go.Shelf
def txtOf (t:List Int):ByteArray:=⟨(encs t).toArray⟩
theorem grown_of_below {w w':World} (h:Below w.heap.size w w') (row:Option Nat):w.grownBy w' row:=⟨h.os,h.tape,h.output,h.size,fun i hi _ => h.block i hi⟩
theorem fixC_fixC (c:Int):fixC (fixC c) = fixC c:=fixC_yes (rightB_iff.2 (fixC_right c))
theorem enc1_fix (c:Int):enc1 (fixC c) = enc1 c:=by unfold enc1;rw [fixC_fixC]
theorem encs_fix (l:List Int):encs (l.map fixC) = encs l:=by
 induction l with
 | nil => rfl
 | cons c t ih =>
  have e1:encs (c :: t) = enc1 c ++ encs t:=by simp [encs]
  have e2:encs ((c :: t).map fixC) = enc1 (fixC c) ++ encs (t.map fixC):=by simp [encs]
  rw [e1,e2,enc1_fix,ih]
theorem bytes_list {v:Value} {W:World} {n₀:Nat} {l:List UInt8} (h:BytesAt n₀ W v l):∃ p cap,v = .slice p l.length cap:=by
 rcases h.cases with ⟨rfl,p,cap,rfl⟩ | ⟨bk,off,cap,rfl,_⟩
 ·exact ⟨_,_,rfl⟩
 ·exact ⟨_,_,rfl⟩
theorem addr_add (g off j:Nat):(⟨g,off,none⟩:Addr).add j = ⟨g,off + j,none⟩:=by
 cases j with
 | zero => rfl
 | succ j => simp [Addr.add]
theorem str_of_bytes {v:Value} {W:World} {n₀:Nat} {l:List UInt8} (h:BytesAt n₀ W v l):(convert 22 9 v).run Tryz.prog W = .ok (.string ⟨l.toArray⟩) W:=by
 rcases h with ⟨rfl,rfl | ⟨x,cap,rfl⟩⟩ | ⟨bk,off,cap,rfl,_,_,_,hc⟩
 ·exact run_convert_bytes_nil W 22 5 Tryz.underlying22 Tryz.underlying5 0 0 9 Tryz.underlying9
 ·exact run_convert_bytes_back W 22 9 5 x cap [] Tryz.underlying22 Tryz.underlying5 Tryz.underlying9 (fun j hj => absurd hj (Nat.not_lt_zero j))
 ·refine run_convert_bytes_back W 22 9 5 ⟨bk,off,none⟩ cap l Tryz.underlying22 Tryz.underlying5 Tryz.underlying9 (fun j hj => ?_)
  rw [addr_add]
  exact hc j _ (List.getElem?_eq_getElem hj)
set_option maxHeartbeats 1000000 in
theorem encoded_any (v:Value) (l:List Int) (w:World) (hI:IntsAt w.heap.size w v l) (hl:l.length ≤ 1000000) :
  Calls Tryz.prog 226 #[v] w fun e w' => e = .returned (.string (txtOf l)) ∧ Below w.heap.size w w':=by
 have h1:=bytes_any v l w hI hl
 obtain ⟨p,cap,rfl⟩:=hI.len
 go_enter Tryz.func226,Tryz.ntmps226
 go_wp2_with fail
 refine h1.mono ?_
 rintro e w1 ⟨v1,rfl,hr,b1⟩
 have hc:=str_of_bytes (BytesAt.of_owns hr rfl)
 go_wp2
 go_ret
 exact ⟨rfl,b1⟩
/-! ### what a reader keeps -/
theorem At.kept_far {W W':World} {n₀ R:Nat} {row:Option Nat} {raw l:List Int} (h:At n₀ W R raw l) (hg:W.grownBy W' row) (hr:∀ j,row = some j → R < j):At n₀ W' R raw l:=by
 obtain ⟨v,a,hd,e⟩:=h
 exact ⟨v,a,⟨hd.pair.kept hg (fun e => by have:=hr _ e.symm;omega),hd.ints.below (((Below.refl R W).grown hg (Nat.le_of_lt hd.pair.lt) (fun r e => by have:=hr r e;omega)).mono hd.low),hd.low,hd.least,hd.most⟩,e⟩
theorem owns_far {X Y:World} {b R:Nat} {e:TypeId} {size:Nat} {v:Value} {m:Nat} {xs:List Value} (h:X.ownsRow b e size v m xs) (hg:X.grownBy Y (some R)) (hR:R < b):Y.ownsRow b e size v m xs:=
 h.kept hg (.inr (fun e => by have:=h.lt R e;omega))
theorem At.len {W:World} {n₀ R:Nat} {raw l:List Int} (h:At n₀ W R raw l):l.length ≤ raw.length ∧ raw.length ≤ 1000000:=by
 obtain ⟨v,a,hr,rfl⟩:=h
 refine ⟨?_,hr.most⟩
 rw [List.length_drop,List.length_map]
 omega
theorem infoInt':(Tryz.prog.info? 3).map (fun i => (i.zero,i.size,i.bytes)) = some (some (.int .i64 0),1,8):=by kernel_rfl
theorem escAt_parts {l:List Int} (h:escAt l = true):∃ c r,l = c :: r ∧ r ≠ []:=by
 match l,h with
 | [],h => exact absurd h (by decide)
 | [c],h => exact absurd h (by simp [escAt,see])
 | c :: d :: r,_ => exact ⟨c,d :: r,rfl,by simp⟩
set_option maxHeartbeats 2000000 in
theorem name_any {w:World} {n₀ R:Nat} {raw l:List Int} (h:At n₀ w R raw l) :
  Calls Tryz.prog 229 #[.pointer (some ⟨R,0,none⟩)] w fun e w' => e = .returned (.string (txtOf (name l).1)) ∧ At n₀ w' R raw (name l).2 ∧ w.grownBy w' (some R):=by
 obtain ⟨i0,hi,hz0,hz1,hz2⟩:=info_parts infoInt'
 have hR:=h.lt
 have hlen:=h.len
 go_enter Tryz.func229,Tryz.ntmps229
 go_wp2
 go_loopw [3] (fun o wr => ∃ t l':List Int,wr.ownsRow w.heap.size 3 1 o t.length (t.map (Value.int .i64)) ∧ At n₀ wr R raw l' ∧ (t ++ (name l').1,(name l').2) = name l ∧ t.length + l'.length ≤ l.length ∧ w.grownBy wr (some R)) (fun _ wr => lenOf raw wr R)
 case atStart => exact ⟨[],l,World.ownsRow_nil _ _ _ _,h,rfl,by simp,World.grownBy.refl _ _⟩
 case round =>
  obtain ⟨t,l',hown,h',e',hl',g'⟩:=hrel
  have hm:=h'.lenOf
  have hw:=g'.size
  have h1:=ahead_any 0 (by omega) h'
  have h2:=isNamePoint_any (see l' 0)
  have h3:∀ w1 (g:wr.grownBy w1 none),Calls Tryz.prog 190 #[.pointer (some ⟨R,0,none⟩),.int .i64 0] w1 fun e w' => e = .returned (.bool (escAt l')) ∧ w1.grownBy w' none:=fun w1 g => escapes_any 0 (by omega) (h'.kept g)
  cases hp:namePt (see l' 0) with
  | true =>
   obtain ⟨c,r,rfl⟩:∃ c r,l' = c :: r:=List.exists_cons_of_ne_nil (fun e => by rw [e] at hp;exact absurd hp (by decide))
   rw [see_zero] at hp h1 h2
   have e2:((t ++ [c]) ++ (name r).1,(name r).2) = name l:=by rw [← e',name_cons,if_pos hp];simp
   rw [hp] at h2
   clear e' h3 hp
   go_wp2_with fail
   refine h1.mono ?_
   rintro e w1 ⟨rfl,g1⟩
   go_wp2_with fail
   refine (h2 _).mono ?_
   rintro e w' ⟨rfl,rfl⟩
   have h4:=take_any (h'.kept g1)
   go_wp2_with fail
   refine h4.mono ?_
   clear h4
   rintro e w2 ⟨rfl,k2,g2⟩
   have g12:=(grown_but g1 (some R)).trans g2
   have hown2:=owns_far hown g12 hR
   have hs2:=g12.size
   clear hown
   simp only [List.length_cons] at hl'
   go_wp2_with (at_builtin;refine wpList_append_own _ rfl _ _ 58 rfl w.heap.size 3 i0 (.int .i64 0) 1 8 Tryz.underlying58 hi hz0 hz1 hz2 rfl (by decide) _ _ _ rfl (hown2.alloc _) ⟨w2.heap.size,0,none⟩ 1 1 [.int .i64 c] rfl rfl (cells_new _ [.int .i64 c] _) (fun x hx => by simp at hx;subst hx;rfl) (by unfold maxLen;omega) (by omega) (by simp;omega) ?_;intro v' w3 hown3 hgrow3 hnil3)
   have far:∀ j,(_:Value).ownBlock = some j → R < j:=fun j e => by have:=(hown2.lt j e).1;omega
   have k3:=(k2.kept (World.grownBy_alloc w2 _ none)).kept_far hgrow3 far
   have hm3:=k3.lenOf
   refine ⟨⟨t ++ [c],r,by simpa using hown3,k3,e2,by simp;omega,?_⟩,by rw [hm,hm3];simp⟩
   exact ((g'.trans g12).trans (World.grownBy_alloc w2 _ _)).andThen hgrow3 (fun j e => .inl (hown2.lt j e).1)
  | false =>
   rw [hp] at h2
   cases he:escAt l' with
   | true =>
    obtain ⟨c,r,rfl,hr⟩:∃ c r,l' = c :: r ∧ r ≠ []:=escAt_parts he
    have hsl:=escd_len c r
    have e2:((t ++ [(escd (c :: r)).1]) ++ (name (escd (c :: r)).2).1,(name (escd (c :: r)).2).2) = name l:=by
     rw [see_zero] at hp
     rw [← e',name_cons,hp,if_neg (by decide),he,if_pos rfl]
     simp
    rw [he] at h3
    have h4:=fun w1 (g:wr.grownBy w1 none) => escape_any (h'.kept g) hr
    generalize (escd (c :: r)).1 = y at *
    generalize (escd (c :: r)).2 = r2 at *
    rw [see_zero] at h1 h2
    clear e' hp he
    go_wp2_with fail
    refine h1.mono ?_
    rintro e w1 ⟨rfl,g1⟩
    go_wp2_with fail
    refine (h2 _).mono ?_
    rintro e w' ⟨rfl,rfl⟩
    go_wp2_with fail
    refine (h3 _ g1).mono ?_
    rintro e w2 ⟨rfl,g2⟩
    have g12:=g1.trans g2
    go_wp2_with fail
    refine (h4 _ g12).mono ?_
    clear h4
    rintro e w3 ⟨rfl,k3,g3⟩
    have g13:=(grown_but g12 (some R)).trans g3
    have hown2:=owns_far hown g13 hR
    have hs2:=g13.size
    clear hown
    simp only [List.length_cons] at hl'
    go_wp2_with (at_builtin;refine wpList_append_own _ rfl _ _ 58 rfl w.heap.size 3 i0 (.int .i64 0) 1 8 Tryz.underlying58 hi hz0 hz1 hz2 rfl (by decide) _ _ _ rfl (hown2.alloc _) ⟨w3.heap.size,0,none⟩ 1 1 [.int .i64 y] rfl rfl (cells_new _ [.int .i64 y] _) (fun x hx => by simp at hx;subst hx;rfl) (by unfold maxLen;omega) (by omega) (by simp;omega) ?_;intro v' w4 hown4 hgrow4 hnil4)
    have far:∀ j,(_:Value).ownBlock = some j → R < j:=fun j e => by have:=(hown2.lt j e).1;omega
    have k4:=(k3.kept (World.grownBy_alloc w3 _ none)).kept_far hgrow4 far
    have hm4:=k4.lenOf
    refine ⟨⟨t ++ [y],r2,by simpa using hown4,k4,e2,by simp;omega,?_⟩,by rw [hm,hm4];simp;omega⟩
    exact ((g'.trans g13).trans (World.grownBy_alloc w3 _ _)).andThen hgrow4 (fun j e => .inl (hown2.lt j e).1)
   | false =>
    have e2:name l = (t,l'):=by rw [← e',name_stop hp he,List.append_nil]
    have HE:Hid (name l = (t,l')):=e2
    rw [he] at h3
    clear e' hp he e2
    go_wp2_with fail
    refine h1.mono ?_
    rintro e w1 ⟨rfl,g1⟩
    go_wp2_with fail
    refine (h2 _).mono ?_
    rintro e w' ⟨rfl,rfl⟩
    go_wp2_with fail
    refine (h3 _ g1).mono ?_
    rintro e w2 ⟨rfl,g2⟩
    have g12:=g1.trans g2
    have hown2:=owns_far hown (grown_but g12 (some R)) hR
    have h4:=encoded_any _ t w2 (IntsAt.of_owns hown2 rfl) (by omega)
    go_wp2_with fail
    refine h4.mono ?_
    rintro e w3 ⟨rfl,b3⟩
    have g3:=grown_of_below b3 none
    go_wp2
    go_ret
    rw [show name l = _ from HE]
    exact ⟨rfl,(h'.kept g12).kept g3,(g'.trans (grown_but g12 _)).trans (grown_but g3 _)⟩
end Go.Proofs.YtagbjmocjaaioaaGreatDoor
