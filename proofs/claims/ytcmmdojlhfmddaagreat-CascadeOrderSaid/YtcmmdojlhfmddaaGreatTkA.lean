/- The tokens of code points, in plain words over lists (chapter 4): no program in this text. 'nv': the number of a number's text. Code points are right ones (from 0 on). -/
import Derived.WalkKit
namespace Go.Proofs.YtcmmdojlhfmddaaGreat
structure Tk where
 kind:Int
 text:List Int
 n:Int
 whole:Bool
 c:Int
deriving DecidableEq
def see (l:List Int) (k:Nat):Int:=(l[k]?).getD (-1)
def isWhite (c:Int):Bool:=c == 9 || c == 10 || c == 32
def isDigit (c:Int):Bool:=decide (48 ≤ c) && decide (c ≤ 57)
def nameStart (c:Int):Bool:=(decide (97 ≤ c) && decide (c ≤ 122)) || (decide (65 ≤ c) && decide (c ≤ 90)) || c == 95 || decide (128 ≤ c)
def namePt (c:Int):Bool:=nameStart c || isDigit c || c == 45
def escAt (l:List Int):Bool:=see l 0 == 92 && decide (0 ≤ see l 1) && see l 1 != 10
def begName (l:List Int):Bool:=if see l 0 == 45 then nameStart (see l 1) || see l 1 == 45 || escAt l.tail else nameStart (see l 0) || escAt l
def unsign (l:List Int):List Int:=if see l 0 == 43 || see l 0 == 45 then l.tail else l
def begNum (l:List Int):Bool:=isDigit (see (unsign l) 0) || (see (unsign l) 0 == 46 && isDigit (see (unsign l) 1))
def hexv (c:Int):Int:=if 48 ≤ c ∧ c ≤ 57 then c - 48 else if 97 ≤ c ∧ c ≤ 102 then c - 97 + 10 else if 65 ≤ c ∧ c ≤ 70 then c - 65 + 10 else -1
def hexRun:Nat → Int → List Int → Int × List Int
 | 0,n,l => (n,l)
 | _ + 1,n,[] => (n,[])
 | k + 1,n,c :: r => if 0 ≤ hexv c then hexRun k (n * 16 + hexv c) r else (n,c :: r)
def hexPoint (n:Int):Int:=if n = 0 ∨ 1114111 < n ∨ (55296 ≤ n ∧ n ≤ 57343) then 65533 else n
def escd (l:List Int):Int × List Int:=
 if hexv (see l 1) < 0 then (see l 1,l.drop 2)
 else (hexPoint (hexRun 6 0 l.tail).1,if isWhite (see (hexRun 6 0 l.tail).2 0) then (hexRun 6 0 l.tail).2.tail else (hexRun 6 0 l.tail).2)
def nameF:Nat → List Int → List Int × List Int
 | 0,l => ([],l)
 | _ + 1,[] => ([],[])
 | f + 1,c :: r => if namePt c then (c :: (nameF f r).1,(nameF f r).2)
  else if escAt (c :: r) then ((escd (c :: r)).1 :: (nameF f (escd (c :: r)).2).1,(nameF f (escd (c :: r)).2).2)
  else ([],c :: r)
def name (l:List Int):List Int × List Int:=nameF l.length l
def strF (q:Int):Nat → List Int → Option (List Int) × List Int
 | 0,l => (some [],l)
 | _ + 1,[] => (some [],[])
 | f + 1,c :: r => if c = q then (some [],r)
  else if c = 10 then (none,c :: r)
  else if c = 92 then
   if r = [] then (some [],[])
   else if see r 0 = 10 then strF q f r.tail
   else ((strF q f (escd (c :: r)).2).1.map ((escd (c :: r)).1 :: ·),(strF q f (escd (c :: r)).2).2)
  else ((strF q f r).1.map (c :: ·),(strF q f r).2)
def str (q:Int) (l:List Int):Option (List Int) × List Int:=strF q l.length l
def sgn (l:List Int):List Int:=if see l 0 == 43 || see l 0 == 45 then [see l 0] else []
def pointed (l:List Int):Bool:=see l 0 == 46 && isDigit (see l 1)
def numText (l:List Int):List Int × List Int × Bool:=
 let d:=(unsign l).takeWhile isDigit
 let r:=(unsign l).dropWhile isDigit
 if pointed r then (sgn l ++ d ++ 46 :: r.tail.takeWhile isDigit,r.tail.dropWhile isDigit,false) else (sgn l ++ d,r,true)
def numeric (nv:List Int → Int) (l:List Int):Tk × List Int:=
 let t:=numText l
 if begName t.2.1 then (⟨8,(name t.2.1).1,nv t.1,false,0⟩,(name t.2.1).2)
 else if see t.2.1 0 = 37 then (⟨7,[],nv t.1,false,0⟩,t.2.1.tail)
 else (⟨6,[],nv t.1,t.2.2,0⟩,t.2.1)
def skipC:List Int → List Int
 | [] => []
 | c :: r => if c = 42 ∧ see r 0 = 47 then r.tail else skipC r
def sign (c:Int):Int:=if c = 58 then 11 else if c = 59 then 12 else if c = 44 then 13 else if c = 123 then 14 else if c = 125 then 15 else if c = 40 then 16 else if c = 41 then 17 else if c = 91 then 18 else if c = 93 then 19 else 0
def step (nv:List Int → Int) (l:List Int):Option Tk × List Int:=
 if see l 0 = 47 ∧ see l 1 = 42 then (none,skipC (l.drop 2))
 else if isWhite (see l 0) then (some ⟨9,[],0,false,0⟩,l.dropWhile isWhite)
 else if see l 0 = 34 ∨ see l 0 = 39 then (some (match (str (see l 0) l.tail).1 with | some t => ⟨4,t,0,false,0⟩ | none => ⟨5,[],0,false,0⟩),(str (see l 0) l.tail).2)
 else if see l 0 = 35 ∧ (namePt (see l 1) || escAt l.tail) = true then (some ⟨3,(name l.tail).1,0,false,0⟩,(name l.tail).2)
 else if begNum l then (some (numeric nv l).1,(numeric nv l).2)
 else if see l 0 = 64 ∧ begName l.tail = true then (some ⟨2,(name l.tail).1,0,false,0⟩,(name l.tail).2)
 else if begName l then
  if see (name l).2 0 = 40 then (some ⟨20,(name l).1,0,false,0⟩,(name l).2.tail) else (some ⟨1,(name l).1,0,false,0⟩,(name l).2)
 else if 0 < sign (see l 0) then (some ⟨sign (see l 0),[],0,false,0⟩,l.tail)
 else (some ⟨10,[],0,false,see l 0⟩,l.tail)
def toksF (nv:List Int → Int):Nat → List Int → List Tk
 | 0,_ => []
 | _ + 1,[] => []
 | f + 1,c :: r => (step nv (c :: r)).1.toList ++ toksF nv f (step nv (c :: r)).2
def toks (nv:List Int → Int) (l:List Int):List Tk:=toksF nv l.length l
/-! ### what is left is shorter -/
theorem tail_le_len (l:List Int):l.tail.length ≤ l.length:=by rw [List.length_tail];omega
theorem dropWhile_len (p:Int → Bool) (l:List Int):(l.dropWhile p).length ≤ l.length:=(List.dropWhile_sublist p).length_le
theorem hexRun_len:∀ (k:Nat) (n:Int) (l:List Int),(hexRun k n l).2.length ≤ l.length
 | 0,_,_ => Nat.le_refl _
 | _ + 1,_,[] => Nat.le_refl _
 | k + 1,n,c :: r => by
  unfold hexRun
  split
  ·have:=hexRun_len k (n * 16 + hexv c) r
   rw [List.length_cons]
   omega
  ·exact Nat.le_refl _
theorem escd_len (c:Int) (r:List Int):(escd (c :: r)).2.length ≤ r.length:=by
 unfold escd
 split
 ·show (r.drop 1).length ≤ r.length
  rw [List.length_drop]
  omega
 ·have:=hexRun_len 6 0 r
  have h2:=tail_le_len (hexRun 6 0 r).2
  show (if isWhite (see (hexRun 6 0 r).2 0) then (hexRun 6 0 r).2.tail else (hexRun 6 0 r).2).length ≤ r.length
  split <;> omega
theorem nameF_len:∀ (f:Nat) (l:List Int),(nameF f l).2.length ≤ l.length
 | 0,_ => Nat.le_refl _
 | _ + 1,[] => Nat.le_refl _
 | f + 1,c :: r => by
  unfold nameF
  split
  ·have:=nameF_len f r
   rw [List.length_cons]
   exact Nat.le_succ_of_le this
  ·split
   ·have:=nameF_len f (escd (c :: r)).2
    have h2:=escd_len c r
    rw [List.length_cons]
    exact Nat.le_trans this (by omega)
   ·exact Nat.le_refl _
theorem strF_len (q:Int):∀ (f:Nat) (l:List Int),(strF q f l).2.length ≤ l.length
 | 0,_ => Nat.le_refl _
 | _ + 1,[] => Nat.le_refl _
 | f + 1,c :: r => by
  unfold strF
  split
  ·exact Nat.le_succ _
  ·split
   ·exact Nat.le_refl _
   ·split
    ·split
     ·exact Nat.zero_le _
     ·split
      ·exact Nat.le_trans (strF_len q f r.tail) (Nat.le_succ_of_le (tail_le_len r))
      ·exact Nat.le_trans (strF_len q f (escd (c :: r)).2) (Nat.le_succ_of_le (escd_len c r))
    ·exact Nat.le_succ_of_le (strF_len q f r)
theorem skipC_len:∀ l:List Int,(skipC l).length ≤ l.length
 | [] => Nat.le_refl _
 | c :: r => by
  unfold skipC
  split
  ·exact Nat.le_succ_of_le (tail_le_len r)
  ·exact Nat.le_succ_of_le (skipC_len r)
/-! ### the steps, without counting -/
theorem nameF_more:∀ (f g:Nat) (l:List Int),l.length ≤ f → l.length ≤ g → nameF f l = nameF g l
 | 0,0,_,_,_ => rfl
 | 0,g + 1,l,hf,_ => by
  have:l = []:=List.length_eq_zero_iff.1 (by omega)
  subst this
  rfl
 | f + 1,0,l,_,hg => by
  have:l = []:=List.length_eq_zero_iff.1 (by omega)
  subst this
  rfl
 | f + 1,g + 1,[],_,_ => rfl
 | f + 1,g + 1,c :: r,hf,hg => by
  rw [List.length_cons] at hf hg
  have h1:=nameF_more f g r (by omega) (by omega)
  have hl:=escd_len c r
  have h2:=nameF_more f g (escd (c :: r)).2 (by omega) (by omega)
  simp only [nameF,h1,h2]
theorem name_cons (c:Int) (r:List Int):name (c :: r) = if namePt c then (c :: (name r).1,(name r).2)
  else if escAt (c :: r) then ((escd (c :: r)).1 :: (name (escd (c :: r)).2).1,(name (escd (c :: r)).2).2) else ([],c :: r):=by
 have hl:=escd_len c r
 unfold name
 rw [List.length_cons,nameF,nameF_more r.length (escd (c :: r)).2.length (escd (c :: r)).2 hl (Nat.le_refl _)]
theorem name_len (l:List Int):(name l).2.length ≤ l.length:=nameF_len _ l
theorem strF_more (q:Int):∀ (f g:Nat) (l:List Int),l.length ≤ f → l.length ≤ g → strF q f l = strF q g l
 | 0,0,_,_,_ => rfl
 | 0,g + 1,l,hf,_ => by
  have:l = []:=List.length_eq_zero_iff.1 (by omega)
  subst this
  rfl
 | f + 1,0,l,_,hg => by
  have:l = []:=List.length_eq_zero_iff.1 (by omega)
  subst this
  rfl
 | f + 1,g + 1,[],_,_ => rfl
 | f + 1,g + 1,c :: r,hf,hg => by
  rw [List.length_cons] at hf hg
  have h1:=strF_more q f g r (by omega) (by omega)
  have hl:=escd_len c r
  have h2:=strF_more q f g (escd (c :: r)).2 (by omega) (by omega)
  have ht:=tail_le_len r
  have h3:=strF_more q f g r.tail (by omega) (by omega)
  simp only [strF,h1,h2,h3]
theorem str_nil (q:Int):str q [] = (some [],[]):=rfl
theorem str_cons (q c:Int) (r:List Int):str q (c :: r) = if c = q then (some [],r)
  else if c = 10 then (none,c :: r)
  else if c = 92 then
   if r = [] then (some [],[])
   else if see r 0 = 10 then str q r.tail
   else ((str q (escd (c :: r)).2).1.map ((escd (c :: r)).1 :: ·),(str q (escd (c :: r)).2).2)
  else ((str q r).1.map (c :: ·),(str q r).2):=by
 have hl:=escd_len c r
 have ht:=tail_le_len r
 unfold str
 rw [List.length_cons,strF,strF_more q r.length (escd (c :: r)).2.length (escd (c :: r)).2 hl (Nat.le_refl _),strF_more q r.length r.tail.length r.tail ht (Nat.le_refl _)]
theorem str_len (q:Int) (l:List Int):(str q l).2.length ≤ l.length:=strF_len q _ l
theorem see_zero (c:Int) (r:List Int):see (c :: r) 0 = c:=rfl
theorem see_succ (c:Int) (r:List Int) (k:Nat):see (c :: r) (k + 1) = see r k:=by simp [see]
theorem see_nil (k:Nat):see [] k = -1:=rfl
theorem isDigit_iff {c:Int}:isDigit c = true ↔ 48 ≤ c ∧ c ≤ 57:=by simp [isDigit]
theorem numText_len {c:Int} {r:List Int} (h:begNum (c :: r) = true):(numText (c :: r)).2.1.length ≤ r.length:=by
 have hu:(unsign (c :: r)).length ≤ r.length + 1:=by
  unfold unsign
  split
  ·show r.length ≤ _;omega
  ·exact Nat.le_refl _
 unfold numText
 simp only
 split
 ·rename_i hp
  have h1:=dropWhile_len isDigit ((unsign (c :: r)).dropWhile isDigit).tail
  have h2:=dropWhile_len isDigit (unsign (c :: r))
  have h3:((unsign (c :: r)).dropWhile isDigit) ≠ []:=fun e => by rw [e] at hp;revert hp;decide
  have h4:((unsign (c :: r)).dropWhile isDigit).tail.length + 1 = ((unsign (c :: r)).dropWhile isDigit).length:=by
   cases e:(unsign (c :: r)).dropWhile isDigit with
   | nil => exact absurd e h3
   | cons a b => rfl
  show (((unsign (c :: r)).dropWhile isDigit).tail.dropWhile isDigit).length ≤ _
  omega
 ·rename_i hp
  show ((unsign (c :: r)).dropWhile isDigit).length ≤ r.length
  unfold begNum at h
  cases e:unsign (c :: r) with
  | nil => simp
  | cons a b =>
   rw [e] at h hp hu
   rw [List.length_cons] at hu
   cases ha:isDigit a with
   | true =>
    have:=dropWhile_len isDigit b
    rw [List.dropWhile_cons,if_pos ha]
    omega
   | false =>
    rw [List.dropWhile_cons,if_neg (by simp [ha])] at hp
    rw [see_zero,ha,Bool.false_or] at h
    exact absurd h hp
theorem numeric_len {nv:List Int → Int} {c:Int} {r:List Int} (h:begNum (c :: r) = true):(numeric nv (c :: r)).2.length ≤ r.length:=by
 have h1:=numText_len h
 have h2:=name_len (numText (c :: r)).2.1
 have h3:=tail_le_len (numText (c :: r)).2.1
 unfold numeric
 simp only
 split
 ·exact Nat.le_trans h2 h1
 ·split
  ·exact Nat.le_trans h3 h1
  ·exact h1
theorem name_beg_len {c:Int} {r:List Int} (h:begName (c :: r) = true):(name (c :: r)).2.length ≤ r.length:=by
 rw [name_cons]
 split
 ·exact name_len r
 ·rename_i hn
  split
  ·exact Nat.le_trans (name_len _) (escd_len c r)
  ·rename_i he
   exfalso
   unfold begName at h
   rw [see_zero] at h
   split at h
   ·rename_i hm
    apply hn
    unfold namePt
    rw [hm]
    simp
   ·unfold namePt at hn
    cases hs:nameStart c with
    | true => rw [hs] at hn;exact hn rfl
    | false => rw [hs,Bool.false_or] at h;exact he h
theorem step_len (nv:List Int → Int) (c:Int) (r:List Int):(step nv (c :: r)).2.length ≤ r.length:=by
 unfold step
 have hr:(c :: r).tail = r:=rfl
 split
 ·have:=skipC_len ((c :: r).drop 2)
  show (skipC ((c :: r).drop 2)).length ≤ _
  rw [List.length_drop,List.length_cons] at this
  omega
 ·split
  ·rename_i hw
   rw [see_zero] at hw
   show ((c :: r).dropWhile isWhite).length ≤ _
   rw [List.dropWhile_cons,if_pos hw]
   exact dropWhile_len _ _
  ·split
   ·exact str_len _ _
   ·split
    ·exact name_len _
    ·split
     ·rename_i hb
      exact numeric_len hb
     ·split
      ·exact name_len _
      ·split
       ·rename_i hb
        have:=name_beg_len hb
        split
        ·exact Nat.le_trans (tail_le_len _) this
        ·exact this
       ·split <;> exact Nat.le_refl _
theorem toksF_more (nv:List Int → Int):∀ (f g:Nat) (l:List Int),l.length ≤ f → l.length ≤ g → toksF nv f l = toksF nv g l
 | 0,0,_,_,_ => rfl
 | 0,g + 1,l,hf,_ => by
  have:l = []:=List.length_eq_zero_iff.1 (by omega)
  subst this
  rfl
 | f + 1,0,l,_,hg => by
  have:l = []:=List.length_eq_zero_iff.1 (by omega)
  subst this
  rfl
 | f + 1,g + 1,[],_,_ => rfl
 | f + 1,g + 1,c :: r,hf,hg => by
  rw [List.length_cons] at hf hg
  have hl:=step_len nv c r
  rw [toksF,toksF,toksF_more nv f g (step nv (c :: r)).2 (by omega) (by omega)]
theorem toks_nil (nv:List Int → Int):toks nv [] = []:=rfl
theorem toks_cons (nv:List Int → Int) (c:Int) (r:List Int):toks nv (c :: r) = (step nv (c :: r)).1.toList ++ toks nv (step nv (c :: r)).2:=by
 have hl:=step_len nv c r
 unfold toks
 rw [List.length_cons,toksF,toksF_more nv r.length (step nv (c :: r)).2.length _ hl (Nat.le_refl _)]
theorem toks_le (nv:List Int → Int) (l:List Int):(toks nv l).length ≤ l.length:=by
 have key:∀ (n:Nat) (l:List Int),l.length ≤ n → (toks nv l).length ≤ l.length:=by
  intro n
  induction n with
  | zero =>
   intro l hl
   have:l = []:=List.length_eq_zero_iff.1 (by omega)
   subst this
   exact Nat.le_refl _
  | succ n ih =>
   intro l hl
   cases l with
   | nil => exact Nat.le_refl _
   | cons c r =>
    rw [List.length_cons] at hl
    have h1:=step_len nv c r
    have h2:=ih (step nv (c :: r)).2 (by omega)
    rw [toks_cons,List.length_append,List.length_cons]
    have h3:(step nv (c :: r)).1.toList.length ≤ 1:=by cases (step nv (c :: r)).1 <;> simp
    omega
 exact key l.length l (Nat.le_refl _)
end Go.Proofs.YtcmmdojlhfmddaaGreat

/- Plain facts on tokens over lists: names, strings, signs, white. -/
namespace Go.Proofs.YtcmmdojlhfmddaaGreat
theorem nameStart_iff {c:Int}:nameStart c = true ↔ (97 ≤ c ∧ c ≤ 122) ∨ (65 ≤ c ∧ c ≤ 90) ∨ c = 95 ∨ 128 ≤ c:=by
 simp only [nameStart,Bool.or_eq_true,Bool.and_eq_true,decide_eq_true_eq,beq_iff_eq]
 omega
theorem isWhite_iff {c:Int}:isWhite c = true ↔ c = 9 ∨ c = 10 ∨ c = 32:=by
 simp only [isWhite,Bool.or_eq_true,beq_iff_eq]
 omega
/-! ### names -/
/-! ### which step is taken -/
variable (nv:List Int → Int)
theorem unsign_no {l:List Int} (h1:see l 0 ≠ 43) (h2:see l 0 ≠ 45):unsign l = l:=by simp [unsign,h1,h2]
theorem begNum_no {l:List Int} (h1:see l 0 ≠ 43) (h2:see l 0 ≠ 45) (h3:isDigit (see l 0) = false) (h4:see l 0 ≠ 46):begNum l = false:=by
 unfold begNum
 rw [unsign_no h1 h2,h3]
 simp [h4]
theorem step_at {r:List Int} (h:begName r = true):step nv (64 :: r) = (some ⟨2,(name r).1,0,false,0⟩,(name r).2):=by
 unfold step
 rw [see_zero,if_neg (by omega),if_neg (by decide),if_neg (by decide),if_neg (by omega),begNum_no (by rw [see_zero];decide) (by rw [see_zero];decide) (by rw [see_zero];decide) (by rw [see_zero];decide),if_neg (by decide),if_pos ⟨rfl,h⟩]
 rfl
/-! ### strings -/
/-! ### one code point alone; white -/
end Go.Proofs.YtcmmdojlhfmddaaGreat
