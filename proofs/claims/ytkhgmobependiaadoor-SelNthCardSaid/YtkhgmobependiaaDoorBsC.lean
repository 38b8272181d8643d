/- The tokens of code points, in plain words over lists (chapter 4): no program in this text. 'nv': the number of a number's text. Code points are right ones (from 0 on). -/
import Derived.WalkKit
namespace Go.Proofs.YtkhgmobependiaaDoor

structure Tk where
  kind : Int
  text : List Int
  n : Int
  whole : Bool
  c : Int
deriving DecidableEq

/-- The code point so many behind; -1: there is none. -/
def see (l : List Int) (k : Nat) : Int := (l[k]?).getD (-1)
def isWhite (c : Int) : Bool := c == 9 || c == 10 || c == 32
def isDigit (c : Int) : Bool := decide (48 ≤ c) && decide (c ≤ 57)
def nameStart (c : Int) : Bool := (decide (97 ≤ c) && decide (c ≤ 122)) || (decide (65 ≤ c) && decide (c ≤ 90)) || c == 95 || decide (128 ≤ c)
def namePt (c : Int) : Bool := nameStart c || isDigit c || c == 45
def escAt (l : List Int) : Bool := see l 0 == 92 && decide (0 ≤ see l 1) && see l 1 != 10
def begName (l : List Int) : Bool := if see l 0 == 45 then nameStart (see l 1) || see l 1 == 45 || escAt l.tail else nameStart (see l 0) || escAt l
def unsign (l : List Int) : List Int := if see l 0 == 43 || see l 0 == 45 then l.tail else l
def begNum (l : List Int) : Bool := isDigit (see (unsign l) 0) || (see (unsign l) 0 == 46 && isDigit (see (unsign l) 1))
def hexv (c : Int) : Int := if 48 ≤ c ∧ c ≤ 57 then c - 48 else if 97 ≤ c ∧ c ≤ 102 then c - 97 + 10 else if 65 ≤ c ∧ c ≤ 70 then c - 65 + 10 else -1
def hexRun : Nat → Int → List Int → Int × List Int
  | 0, n, l => (n, l)
  | _ + 1, n, [] => (n, [])
  | k + 1, n, c :: r => if 0 ≤ hexv c then hexRun k (n * 16 + hexv c) r else (n, c :: r)
def hexPoint (n : Int) : Int := if n = 0 ∨ 1114111 < n ∨ (55296 ≤ n ∧ n ≤ 57343) then 65533 else n
/-- The escape that stands here: its code point, and what is left. -/
def escd (l : List Int) : Int × List Int :=
  if hexv (see l 1) < 0 then (see l 1, l.drop 2)
  else (hexPoint (hexRun 6 0 l.tail).1, if isWhite (see (hexRun 6 0 l.tail).2 0) then (hexRun 6 0 l.tail).2.tail else (hexRun 6 0 l.tail).2)
def nameF : Nat → List Int → List Int × List Int
  | 0, l => ([], l)
  | _ + 1, [] => ([], [])
  | f + 1, c :: r => if namePt c then (c :: (nameF f r).1, (nameF f r).2)
    else if escAt (c :: r) then ((escd (c :: r)).1 :: (nameF f (escd (c :: r)).2).1, (nameF f (escd (c :: r)).2).2)
    else ([], c :: r)
/-- The name that stands here, and what is left. -/
def name (l : List Int) : List Int × List Int := nameF l.length l
def strF (q : Int) : Nat → List Int → Option (List Int) × List Int
  | 0, l => (some [], l)
  | _ + 1, [] => (some [], [])
  | f + 1, c :: r => if c = q then (some [], r)
    else if c = 10 then (none, c :: r)
    else if c = 92 then
      if r = [] then (some [], [])
      else if see r 0 = 10 then strF q f r.tail
      else ((strF q f (escd (c :: r)).2).1.map ((escd (c :: r)).1 :: ·), (strF q f (escd (c :: r)).2).2)
    else ((strF q f r).1.map (c :: ·), (strF q f r).2)
/-- What stands in a string up to the sign q, and what is left; none: it is broken off. -/
def str (q : Int) (l : List Int) : Option (List Int) × List Int := strF q l.length l
def sgn (l : List Int) : List Int := if see l 0 == 43 || see l 0 == 45 then [see l 0] else []
def pointed (l : List Int) : Bool := see l 0 == 46 && isDigit (see l 1)
/-- The number's text, what is left, and whether there is no point. -/
def numText (l : List Int) : List Int × List Int × Bool :=
  let d := (unsign l).takeWhile isDigit
  let r := (unsign l).dropWhile isDigit
  if pointed r then (sgn l ++ d ++ 46 :: r.tail.takeWhile isDigit, r.tail.dropWhile isDigit, false) else (sgn l ++ d, r, true)
def numeric (nv : List Int → Int) (l : List Int) : Tk × List Int :=
  let t := numText l
  if begName t.2.1 then (⟨8, (name t.2.1).1, nv t.1, false, 0⟩, (name t.2.1).2)
  else if see t.2.1 0 = 37 then (⟨7, [], nv t.1, false, 0⟩, t.2.1.tail)
  else (⟨6, [], nv t.1, t.2.2, 0⟩, t.2.1)
def skipC : List Int → List Int
  | [] => []
  | c :: r => if c = 42 ∧ see r 0 = 47 then r.tail else skipC r
def sign (c : Int) : Int := if c = 58 then 11 else if c = 59 then 12 else if c = 44 then 13 else if c = 123 then 14 else if c = 125 then 15 else if c = 40 then 16 else if c = 41 then 17 else if c = 91 then 18 else if c = 93 then 19 else 0
/-- One step from a place that is not the end: a token or none, and what is left. -/
def step (nv : List Int → Int) (l : List Int) : Option Tk × List Int :=
  if see l 0 = 47 ∧ see l 1 = 42 then (none, skipC (l.drop 2))
  else if isWhite (see l 0) then (some ⟨9, [], 0, false, 0⟩, l.dropWhile isWhite)
  else if see l 0 = 34 ∨ see l 0 = 39 then (some (match (str (see l 0) l.tail).1 with | some t => ⟨4, t, 0, false, 0⟩ | none => ⟨5, [], 0, false, 0⟩), (str (see l 0) l.tail).2)
  else if see l 0 = 35 ∧ (namePt (see l 1) || escAt l.tail) = true then (some ⟨3, (name l.tail).1, 0, false, 0⟩, (name l.tail).2)
  else if begNum l then (some (numeric nv l).1, (numeric nv l).2)
  else if see l 0 = 64 ∧ begName l.tail = true then (some ⟨2, (name l.tail).1, 0, false, 0⟩, (name l.tail).2)
  else if begName l then
    if see (name l).2 0 = 40 then (some ⟨20, (name l).1, 0, false, 0⟩, (name l).2.tail) else (some ⟨1, (name l).1, 0, false, 0⟩, (name l).2)
  else if 0 < sign (see l 0) then (some ⟨sign (see l 0), [], 0, false, 0⟩, l.tail)
  else (some ⟨10, [], 0, false, see l 0⟩, l.tail)
def toksF (nv : List Int → Int) : Nat → List Int → List Tk
  | 0, _ => []
  | _ + 1, [] => []
  | f + 1, c :: r => (step nv (c :: r)).1.toList ++ toksF nv f (step nv (c :: r)).2
def toks (nv : List Int → Int) (l : List Int) : List Tk := toksF nv l.length l

/-! ### what is left is shorter -/
theorem tail_le_len (l : List Int) : l.tail.length ≤ l.length := by rw [List.length_tail]; omega
theorem dropWhile_len (p : Int → Bool) (l : List Int) : (l.dropWhile p).length ≤ l.length := (List.dropWhile_sublist p).length_le
theorem hexRun_len : ∀ (k : Nat) (n : Int) (l : List Int), (hexRun k n l).2.length ≤ l.length
  | 0, _, _ => Nat.le_refl _
  | _ + 1, _, [] => Nat.le_refl _
  | k + 1, n, c :: r => by
    unfold hexRun
    split
    · have := hexRun_len k (n * 16 + hexv c) r
      rw [List.length_cons]
      omega
    · exact Nat.le_refl _
theorem escd_len (c : Int) (r : List Int) : (escd (c :: r)).2.length ≤ r.length := by
  unfold escd
  split
  · show (r.drop 1).length ≤ r.length
    rw [List.length_drop]
    omega
  · have := hexRun_len 6 0 r
    have h2 := tail_le_len (hexRun 6 0 r).2
    show (if isWhite (see (hexRun 6 0 r).2 0) then (hexRun 6 0 r).2.tail else (hexRun 6 0 r).2).length ≤ r.length
    split <;> omega
theorem nameF_len : ∀ (f : Nat) (l : List Int), (nameF f l).2.length ≤ l.length
  | 0, _ => Nat.le_refl _
  | _ + 1, [] => Nat.le_refl _
  | f + 1, c :: r => by
    unfold nameF
    split
    · have := nameF_len f r
      rw [List.length_cons]
      exact Nat.le_succ_of_le this
    · split
      · have := nameF_len f (escd (c :: r)).2
        have h2 := escd_len c r
        rw [List.length_cons]
        exact Nat.le_trans this (by omega)
      · exact Nat.le_refl _
theorem strF_len (q : Int) : ∀ (f : Nat) (l : List Int), (strF q f l).2.length ≤ l.length
  | 0, _ => Nat.le_refl _
  | _ + 1, [] => Nat.le_refl _
  | f + 1, c :: r => by
    unfold strF
    split
    · exact Nat.le_succ _
    · split
      · exact Nat.le_refl _
      · split
        · split
          · exact Nat.zero_le _
          · split
            · exact Nat.le_trans (strF_len q f r.tail) (Nat.le_succ_of_le (tail_le_len r))
            · exact Nat.le_trans (strF_len q f (escd (c :: r)).2) (Nat.le_succ_of_le (escd_len c r))
        · exact Nat.le_succ_of_le (strF_len q f r)
theorem skipC_len : ∀ l : List Int, (skipC l).length ≤ l.length
  | [] => Nat.le_refl _
  | c :: r => by
    unfold skipC
    split
    · exact Nat.le_succ_of_le (tail_le_len r)
    · exact Nat.le_succ_of_le (skipC_len r)

/-! ### the steps, without counting -/
theorem nameF_more : ∀ (f g : Nat) (l : List Int), l.length ≤ f → l.length ≤ g → nameF f l = nameF g l
  | 0, 0, _, _, _ => rfl
  | 0, g + 1, l, hf, _ => by
    have : l = [] := List.length_eq_zero_iff.1 (by omega)
    subst this
    rfl
  | f + 1, 0, l, _, hg => by
    have : l = [] := List.length_eq_zero_iff.1 (by omega)
    subst this
    rfl
  | f + 1, g + 1, [], _, _ => rfl
  | f + 1, g + 1, c :: r, hf, hg => by
    rw [List.length_cons] at hf hg
    have h1 := nameF_more f g r (by omega) (by omega)
    have hl := escd_len c r
    have h2 := nameF_more f g (escd (c :: r)).2 (by omega) (by omega)
    simp only [nameF, h1, h2]
theorem name_nil : name [] = ([], []) := rfl
theorem name_cons (c : Int) (r : List Int) : name (c :: r) = if namePt c then (c :: (name r).1, (name r).2)
    else if escAt (c :: r) then ((escd (c :: r)).1 :: (name (escd (c :: r)).2).1, (name (escd (c :: r)).2).2) else ([], c :: r) := by
  have hl := escd_len c r
  unfold name
  rw [List.length_cons, nameF, nameF_more r.length (escd (c :: r)).2.length (escd (c :: r)).2 hl (Nat.le_refl _)]
theorem name_len (l : List Int) : (name l).2.length ≤ l.length := nameF_len _ l
theorem strF_more (q : Int) : ∀ (f g : Nat) (l : List Int), l.length ≤ f → l.length ≤ g → strF q f l = strF q g l
  | 0, 0, _, _, _ => rfl
  | 0, g + 1, l, hf, _ => by
    have : l = [] := List.length_eq_zero_iff.1 (by omega)
    subst this
    rfl
  | f + 1, 0, l, _, hg => by
    have : l = [] := List.length_eq_zero_iff.1 (by omega)
    subst this
    rfl
  | f + 1, g + 1, [], _, _ => rfl
  | f + 1, g + 1, c :: r, hf, hg => by
    rw [List.length_cons] at hf hg
    have h1 := strF_more q f g r (by omega) (by omega)
    have hl := escd_len c r
    have h2 := strF_more q f g (escd (c :: r)).2 (by omega) (by omega)
    have ht := tail_le_len r
    have h3 := strF_more q f g r.tail (by omega) (by omega)
    simp only [strF, h1, h2, h3]
theorem str_nil (q : Int) : str q [] = (some [], []) := rfl
theorem str_cons (q c : Int) (r : List Int) : str q (c :: r) = if c = q then (some [], r)
    else if c = 10 then (none, c :: r)
    else if c = 92 then
      if r = [] then (some [], [])
      else if see r 0 = 10 then str q r.tail
      else ((str q (escd (c :: r)).2).1.map ((escd (c :: r)).1 :: ·), (str q (escd (c :: r)).2).2)
    else ((str q r).1.map (c :: ·), (str q r).2) := by
  have hl := escd_len c r
  have ht := tail_le_len r
  unfold str
  rw [List.length_cons, strF, strF_more q r.length (escd (c :: r)).2.length (escd (c :: r)).2 hl (Nat.le_refl _), strF_more q r.length r.tail.length r.tail ht (Nat.le_refl _)]
theorem str_len (q : Int) (l : List Int) : (str q l).2.length ≤ l.length := strF_len q _ l

theorem see_zero (c : Int) (r : List Int) : see (c :: r) 0 = c := rfl
theorem see_succ (c : Int) (r : List Int) (k : Nat) : see (c :: r) (k + 1) = see r k := by simp [see]
theorem see_nil (k : Nat) : see [] k = -1 := rfl
theorem isDigit_iff {c : Int} : isDigit c = true ↔ 48 ≤ c ∧ c ≤ 57 := by simp [isDigit]

theorem numText_len {c : Int} {r : List Int} (h : begNum (c :: r) = true) : (numText (c :: r)).2.1.length ≤ r.length := by
  have hu : (unsign (c :: r)).length ≤ r.length + 1 := by
    unfold unsign
    split
    · show r.length ≤ _; omega
    · exact Nat.le_refl _
  unfold numText
  simp only
  split
  · rename_i hp
    have h1 := dropWhile_len isDigit ((unsign (c :: r)).dropWhile isDigit).tail
    have h2 := dropWhile_len isDigit (unsign (c :: r))
    have h3 : ((unsign (c :: r)).dropWhile isDigit) ≠ [] := fun e => by rw [e] at hp; revert hp; decide
    have h4 : ((unsign (c :: r)).dropWhile isDigit).tail.length + 1 = ((unsign (c :: r)).dropWhile isDigit).length := by
      cases e : (unsign (c :: r)).dropWhile isDigit with
      | nil => exact absurd e h3
      | cons a b => rfl
    show (((unsign (c :: r)).dropWhile isDigit).tail.dropWhile isDigit).length ≤ _
    omega
  · rename_i hp
    show ((unsign (c :: r)).dropWhile isDigit).length ≤ r.length
    unfold begNum at h
    cases e : unsign (c :: r) with
    | nil => simp
    | cons a b =>
      rw [e] at h hp hu
      rw [List.length_cons] at hu
      cases ha : isDigit a with
      | true =>
        have := dropWhile_len isDigit b
        rw [List.dropWhile_cons, if_pos ha]
        omega
      | false =>
        rw [List.dropWhile_cons, if_neg (by simp [ha])] at hp
        rw [see_zero, ha, Bool.false_or] at h
        exact absurd h hp
theorem numeric_len {nv : List Int → Int} {c : Int} {r : List Int} (h : begNum (c :: r) = true) : (numeric nv (c :: r)).2.length ≤ r.length := by
  have h1 := numText_len h
  have h2 := name_len (numText (c :: r)).2.1
  have h3 := tail_le_len (numText (c :: r)).2.1
  unfold numeric
  simp only
  split
  · exact Nat.le_trans h2 h1
  · split
    · exact Nat.le_trans h3 h1
    · exact h1
theorem name_beg_len {c : Int} {r : List Int} (h : begName (c :: r) = true) : (name (c :: r)).2.length ≤ r.length := by
  rw [name_cons]
  split
  · exact name_len r
  · rename_i hn
    split
    · exact Nat.le_trans (name_len _) (escd_len c r)
    · rename_i he
      exfalso
      unfold begName at h
      rw [see_zero] at h
      split at h
      · rename_i hm
        apply hn
        unfold namePt
        rw [hm]
        simp
      · unfold namePt at hn
        cases hs : nameStart c with
        | true => rw [hs] at hn; exact hn rfl
        | false => rw [hs, Bool.false_or] at h; exact he h
theorem step_len (nv : List Int → Int) (c : Int) (r : List Int) : (step nv (c :: r)).2.length ≤ r.length := by
  unfold step
  have hr : (c :: r).tail = r := rfl
  split
  · have := skipC_len ((c :: r).drop 2)
    show (skipC ((c :: r).drop 2)).length ≤ _
    rw [List.length_drop, List.length_cons] at this
    omega
  · split
    · rename_i hw
      rw [see_zero] at hw
      show ((c :: r).dropWhile isWhite).length ≤ _
      rw [List.dropWhile_cons, if_pos hw]
      exact dropWhile_len _ _
    · split
      · exact str_len _ _
      · split
        · exact name_len _
        · split
          · rename_i hb
            exact numeric_len hb
          · split
            · exact name_len _
            · split
              · rename_i hb
                have := name_beg_len hb
                split
                · exact Nat.le_trans (tail_le_len _) this
                · exact this
              · split <;> exact Nat.le_refl _
theorem toksF_more (nv : List Int → Int) : ∀ (f g : Nat) (l : List Int), l.length ≤ f → l.length ≤ g → toksF nv f l = toksF nv g l
  | 0, 0, _, _, _ => rfl
  | 0, g + 1, l, hf, _ => by
    have : l = [] := List.length_eq_zero_iff.1 (by omega)
    subst this
    rfl
  | f + 1, 0, l, _, hg => by
    have : l = [] := List.length_eq_zero_iff.1 (by omega)
    subst this
    rfl
  | f + 1, g + 1, [], _, _ => rfl
  | f + 1, g + 1, c :: r, hf, hg => by
    rw [List.length_cons] at hf hg
    have hl := step_len nv c r
    rw [toksF, toksF, toksF_more nv f g (step nv (c :: r)).2 (by omega) (by omega)]
theorem toks_nil (nv : List Int → Int) : toks nv [] = [] := rfl
theorem toks_cons (nv : List Int → Int) (c : Int) (r : List Int) : toks nv (c :: r) = (step nv (c :: r)).1.toList ++ toks nv (step nv (c :: r)).2 := by
  have hl := step_len nv c r
  unfold toks
  rw [List.length_cons, toksF, toksF_more nv r.length (step nv (c :: r)).2.length _ hl (Nat.le_refl _)]
theorem toks_le (nv : List Int → Int) (l : List Int) : (toks nv l).length ≤ l.length := by
  have key : ∀ (n : Nat) (l : List Int), l.length ≤ n → (toks nv l).length ≤ l.length := by
    intro n
    induction n with
    | zero =>
      intro l hl
      have : l = [] := List.length_eq_zero_iff.1 (by omega)
      subst this
      exact Nat.le_refl _
    | succ n ih =>
      intro l hl
      cases l with
      | nil => exact Nat.le_refl _
      | cons c r =>
        rw [List.length_cons] at hl
        have h1 := step_len nv c r
        have h2 := ih (step nv (c :: r)).2 (by omega)
        rw [toks_cons, List.length_append, List.length_cons]
        have h3 : (step nv (c :: r)).1.toList.length ≤ 1 := by cases (step nv (c :: r)).1 <;> simp
        omega
  exact key l.length l (Nat.le_refl _)

end Go.Proofs.YtkhgmobependiaaDoor

/- Plain facts on tokens over lists: names, strings, signs, white. -/
namespace Go.Proofs.YtkhgmobependiaaDoor

def letter (c : Int) : Bool := (decide (97 ≤ c) && decide (c ≤ 122)) || (decide (65 ≤ c) && decide (c ≤ 90))
theorem letter_iff {c : Int} : letter c = true ↔ (97 ≤ c ∧ c ≤ 122) ∨ (65 ≤ c ∧ c ≤ 90) := by simp [letter]
theorem nameStart_iff {c : Int} : nameStart c = true ↔ (97 ≤ c ∧ c ≤ 122) ∨ (65 ≤ c ∧ c ≤ 90) ∨ c = 95 ∨ 128 ≤ c := by
  simp only [nameStart, Bool.or_eq_true, Bool.and_eq_true, decide_eq_true_eq, beq_iff_eq]
  omega
theorem namePt_iff {c : Int} : namePt c = true ↔ (97 ≤ c ∧ c ≤ 122) ∨ (65 ≤ c ∧ c ≤ 90) ∨ c = 95 ∨ 128 ≤ c ∨ (48 ≤ c ∧ c ≤ 57) ∨ c = 45 := by
  simp only [namePt, Bool.or_eq_true, nameStart_iff, isDigit_iff, beq_iff_eq]
  omega
theorem isWhite_iff {c : Int} : isWhite c = true ↔ c = 9 ∨ c = 10 ∨ c = 32 := by
  simp only [isWhite, Bool.or_eq_true, beq_iff_eq]
  omega
theorem ff {b : Bool} (h : ¬ b = true) : b = false := by cases b <;> simp_all
theorem isDigit_no {c : Int} (h : ¬ (48 ≤ c ∧ c ≤ 57)) : isDigit c = false := ff (fun e => h (isDigit_iff.1 e))
theorem nameStart_no {c : Int} (h : ¬ ((97 ≤ c ∧ c ≤ 122) ∨ (65 ≤ c ∧ c ≤ 90) ∨ c = 95 ∨ 128 ≤ c)) : nameStart c = false := ff (fun e => h (nameStart_iff.1 e))
theorem namePt_no {c : Int} (h : ¬ ((97 ≤ c ∧ c ≤ 122) ∨ (65 ≤ c ∧ c ≤ 90) ∨ c = 95 ∨ 128 ≤ c ∨ (48 ≤ c ∧ c ≤ 57) ∨ c = 45)) : namePt c = false := ff (fun e => h (namePt_iff.1 e))
theorem isWhite_no {c : Int} (h : ¬ (c = 9 ∨ c = 10 ∨ c = 32)) : isWhite c = false := ff (fun e => h (isWhite_iff.1 e))
theorem letter_start {c : Int} (h : letter c = true) : nameStart c = true := nameStart_iff.2 (by have := letter_iff.1 h; omega)
theorem start_pt {c : Int} (h : nameStart c = true) : namePt c = true := namePt_iff.2 (by have := nameStart_iff.1 h; omega)
theorem escAt_no {l : List Int} (h : see l 0 ≠ 92) : escAt l = false := by simp [escAt, h]

/-! ### names -/
theorem name_stop {l : List Int} (h : namePt (see l 0) = false) (he : escAt l = false) : name l = ([], l) := by
  cases l with
  | nil => rfl
  | cons c r =>
    rw [see_zero] at h
    rw [name_cons, h, he]
    rfl
theorem name_run {x : List Int} (hx : name x = ([], x)) : ∀ l : List Int, l.all namePt = true → name (l ++ x) = (l, x)
  | [], _ => hx
  | c :: l, h => by
    have h' : namePt c = true ∧ l.all namePt = true := by simpa using h
    rw [List.cons_append, name_cons, if_pos h'.1, name_run hx l h'.2]
theorem all_letters {l : List Int} (h : l.all letter = true) : l.all namePt = true := List.all_eq_true.2 fun c hc => start_pt (letter_start (List.all_eq_true.1 h c hc))

/-! ### which step is taken -/
variable (nv : List Int → Int)
theorem unsign_no {l : List Int} (h1 : see l 0 ≠ 43) (h2 : see l 0 ≠ 45) : unsign l = l := by simp [unsign, h1, h2]
theorem begNum_no {l : List Int} (h1 : see l 0 ≠ 43) (h2 : see l 0 ≠ 45) (h3 : isDigit (see l 0) = false) (h4 : see l 0 ≠ 46) : begNum l = false := by
  unfold begNum
  rw [unsign_no h1 h2, h3]
  simp [h4]
theorem begName_no {l : List Int} (h1 : see l 0 ≠ 45) (h2 : nameStart (see l 0) = false) (h3 : see l 0 ≠ 92) : begName l = false := by
  unfold begName
  rw [if_neg (by simpa using h1), h2, escAt_no h3]
  rfl
theorem step_start {c : Int} (r : List Int) (h : nameStart c = true) : step nv (c :: r) = if see (name (c :: r)).2 0 = 40 then (some ⟨20, (name (c :: r)).1, 0, false, 0⟩, (name (c :: r)).2.tail) else (some ⟨1, (name (c :: r)).1, 0, false, 0⟩, (name (c :: r)).2) := by
  have hc := nameStart_iff.1 h
  unfold step
  rw [see_zero, if_neg (by omega), isWhite_no (by omega), if_neg (by decide), if_neg (by omega), if_neg (by omega), begNum_no (by rw [see_zero]; omega) (by rw [see_zero]; omega) (isDigit_no (by rw [see_zero]; omega)) (by rw [see_zero]; omega), if_neg (by decide), if_neg (by omega), if_pos]
  unfold begName
  rw [see_zero, if_neg (by simp; omega), h]
  rfl
theorem step_at {r : List Int} (h : begName r = true) : step nv (64 :: r) = (some ⟨2, (name r).1, 0, false, 0⟩, (name r).2) := by
  unfold step
  rw [see_zero, if_neg (by omega), if_neg (by decide), if_neg (by decide), if_neg (by omega), begNum_no (by rw [see_zero]; decide) (by rw [see_zero]; decide) (by rw [see_zero]; decide) (by rw [see_zero]; decide), if_neg (by decide), if_pos ⟨rfl, h⟩]
  rfl
theorem step_hash {r : List Int} (h : namePt (see r 0) = true) : step nv (35 :: r) = (some ⟨3, (name r).1, 0, false, 0⟩, (name r).2) := by
  unfold step
  rw [see_zero, see_succ, if_neg (by omega), if_neg (by decide), if_neg (by decide), if_pos ⟨rfl, by rw [h]; rfl⟩]
  rfl
theorem step_dash {r : List Int} (h1 : begName (45 :: r) = true) (h2 : isDigit (see r 0) = false) (h3 : see r 0 ≠ 46) : step nv (45 :: r) = if see (name (45 :: r)).2 0 = 40 then (some ⟨20, (name (45 :: r)).1, 0, false, 0⟩, (name (45 :: r)).2.tail) else (some ⟨1, (name (45 :: r)).1, 0, false, 0⟩, (name (45 :: r)).2) := by
  have hn : begNum (45 :: r) = false := by
    unfold begNum
    rw [show unsign (45 :: r) = r from rfl, h2]
    simp [h3]
  unfold step
  rw [see_zero, if_neg (by omega), if_neg (by decide), if_neg (by decide), if_neg (by omega), hn, if_neg (by decide), if_neg (by omega), if_pos h1]
/-- Where nothing else fits: a sign's token, or any other code point's. -/
theorem step_plain {c : Int} {r : List Int} (h1 : ¬ (c = 47 ∧ see r 0 = 42)) (h2 : isWhite c = false) (h3 : c ≠ 34) (h4 : c ≠ 39) (h5 : c ≠ 35 ∨ (namePt (see r 0) || escAt r) = false) (h6 : begNum (c :: r) = false) (h7 : c ≠ 64 ∨ begName r = false) (h8 : begName (c :: r) = false) :
    step nv (c :: r) = if 0 < sign c then (some ⟨sign c, [], 0, false, 0⟩, r) else (some ⟨10, [], 0, false, c⟩, r) := by
  unfold step
  rw [see_zero, see_succ, if_neg h1, h2, if_neg (by decide), if_neg (by omega), if_neg (by
    rintro ⟨e, h⟩
    rcases h5 with h5 | h5
    · exact h5 e
    · rw [show (c :: r).tail = r from rfl, h5] at h; cases h), h6, if_neg (by decide), if_neg (by
    rintro ⟨e, h⟩
    rcases h7 with h7 | h7
    · exact h7 e
    · rw [show (c :: r).tail = r from rfl, h7] at h; cases h), h8, if_neg (by decide)]
  rfl

theorem toks_names {c : Int} {l : List Int} (h : (c :: l).all letter = true) :
    toks nv (c :: l) = [⟨1, c :: l, 0, false, 0⟩] ∧ toks nv (64 :: c :: l) = [⟨2, c :: l, 0, false, 0⟩] ∧ toks nv (35 :: c :: l) = [⟨3, c :: l, 0, false, 0⟩]
    ∧ toks nv (c :: l ++ [40]) = [⟨20, c :: l, 0, false, 0⟩] ∧ toks nv (45 :: c :: l) = [⟨1, 45 :: c :: l, 0, false, 0⟩] ∧ toks nv (45 :: 45 :: c :: l) = [⟨1, 45 :: 45 :: c :: l, 0, false, 0⟩]
    ∧ toks nv (46 :: c :: l) = [⟨10, [], 0, false, 46⟩, ⟨1, c :: l, 0, false, 0⟩] ∧ toks nv (51 :: c :: l) = [⟨8, c :: l, nv [51], false, 0⟩] := by
  have hp := all_letters h
  have hc : letter c = true := List.all_eq_true.1 h c (List.mem_cons_self ..)
  have hcs := letter_start hc
  have hci := letter_iff.1 hc
  have n0 : name (c :: l) = (c :: l, []) := by simpa using name_run (x := []) rfl (c :: l) hp
  have e0 : step nv (c :: l) = (some ⟨1, c :: l, 0, false, 0⟩, []) := by
    rw [step_start nv l hcs, n0, if_neg (by rw [see_nil]; decide)]
  have hb : begName (c :: l) = true := by
    unfold begName
    rw [see_zero, if_neg (by simp; omega), hcs]
    rfl
  have t0 : toks nv (c :: l) = [⟨1, c :: l, 0, false, 0⟩] := by rw [toks_cons, e0]; rfl
  refine ⟨t0, ?_, ?_, ?_, ?_, ?_, ?_, ?_⟩
  · rw [toks_cons, step_at nv hb, n0]; rfl
  · rw [toks_cons, step_hash nv (by rw [see_zero]; exact start_pt hcs), n0]; rfl
  · have n1 : name (c :: l ++ [40]) = (c :: l, [40]) := name_run (x := [40]) (name_stop (by decide) (by decide)) (c :: l) hp
    rw [List.cons_append] at n1 ⊢
    rw [toks_cons, step_start nv _ hcs, n1, if_pos (show see (c :: l, [(40 : Int)]).2 0 = 40 from rfl)]
    rfl
  · have hb' : begName (45 :: c :: l) = true := by
      unfold begName
      rw [if_pos (show (see (45 :: c :: l) 0 == 45) = true from rfl), see_succ, see_zero, hcs]
      rfl
    have n1 : name (45 :: c :: l) = (45 :: c :: l, []) := by simpa using name_run (x := []) rfl (45 :: c :: l) (by rw [List.all_cons, hp]; rfl)
    rw [toks_cons, step_dash nv hb' (by rw [see_zero]; exact isDigit_no (by omega)) (by rw [see_zero]; omega), n1, if_neg (by rw [see_nil]; decide)]
    rfl
  · have hb' : begName (45 :: 45 :: c :: l) = true := by
      unfold begName
      rw [if_pos (show (see (45 :: 45 :: c :: l) 0 == 45) = true from rfl), see_succ, see_zero]
      simp
    have n1 : name (45 :: 45 :: c :: l) = (45 :: 45 :: c :: l, []) := by simpa using name_run (x := []) rfl (45 :: 45 :: c :: l) (by rw [List.all_cons, List.all_cons, hp]; rfl)
    rw [toks_cons, step_dash nv hb' (by rw [see_zero]; decide) (by rw [see_zero]; decide), n1, if_neg (by rw [see_nil]; decide)]
    rfl
  · have hn : begNum (46 :: c :: l) = false := by
      unfold begNum
      rw [unsign_no (by rw [see_zero]; decide) (by rw [see_zero]; decide), see_zero, see_succ, see_zero, isDigit_no (c := c) (by omega)]
      rfl
    rw [toks_cons, step_plain nv (by omega) (by decide) (by decide) (by decide) (.inl (by decide)) hn (.inl (by decide)) (begName_no (by rw [see_zero]; decide) (by rw [see_zero]; decide) (by rw [see_zero]; decide)), if_neg (by decide)]
    show _ :: toks nv (c :: l) = _
    rw [t0]
  · have hn : begNum (51 :: c :: l) = true := by
      unfold begNum
      rw [unsign_no (by rw [see_zero]; decide) (by rw [see_zero]; decide), see_zero]
      rfl
    have ht : numText (51 :: c :: l) = ([51], c :: l, true) := by
      unfold numText
      rw [unsign_no (by rw [see_zero]; decide) (by rw [see_zero]; decide)]
      have hd : isDigit c = false := isDigit_no (by omega)
      simp only [List.takeWhile_cons, List.dropWhile_cons, hd, show isDigit 51 = true from rfl, if_true]
      rw [if_neg (by simp only [pointed, Bool.false_eq_true, if_false]; rw [see_zero]; simp; omega)]
      rfl
    have hs : step nv (51 :: c :: l) = (some ⟨8, c :: l, nv [51], false, 0⟩, []) := by
      unfold step
      rw [see_zero, if_neg (by omega), if_neg (by decide), if_neg (by decide), if_neg (by omega), if_pos hn]
      unfold numeric
      rw [ht]
      simp only
      rw [if_pos hb, n0]
    rw [toks_cons, hs]
    rfl

/-! ### strings -/
def inStr (c : Int) : Bool := c != 34 && c != 39 && c != 92 && c != 10
theorem str_run {q : Int} (hq : q = 34 ∨ q = 39) (x : List Int) : ∀ l : List Int, l.all inStr = true → str q (l ++ x) = ((str q x).1.map (l ++ ·), (str q x).2)
  | [], _ => by simp
  | c :: l, h => by
    have h' : inStr c = true ∧ l.all inStr = true := by simpa using h
    have hc : c ≠ 34 ∧ c ≠ 39 ∧ c ≠ 92 ∧ c ≠ 10 := by
      have := h'.1
      simp only [inStr, Bool.and_eq_true, bne_iff_ne] at this
      exact ⟨this.1.1.1, this.1.1.2, this.1.2, this.2⟩
    rw [List.cons_append, str_cons, if_neg (by omega), if_neg hc.2.2.2, if_neg hc.2.2.1, str_run hq x l h'.2]
    simp only [Option.map_map]
    rfl
theorem step_str {q : Int} (hq : q = 34 ∨ q = 39) (r : List Int) : step nv (q :: r) = (some (match (str q r).1 with | some t => ⟨4, t, 0, false, 0⟩ | none => ⟨5, [], 0, false, 0⟩), (str q r).2) := by
  unfold step
  rw [see_zero, if_neg (by omega), isWhite_no (by omega), if_neg (by decide), if_pos hq]
  rfl
theorem toks_strings {q : Int} (hq : q = 34 ∨ q = 39) {l : List Int} (h : l.all inStr = true) :
    toks nv (q :: l ++ [q, 97]) = [⟨4, l, 0, false, 0⟩, ⟨1, [97], 0, false, 0⟩] ∧ toks nv (q :: l) = [⟨4, l, 0, false, 0⟩] ∧ toks nv (q :: l ++ [10, 97]) = [⟨5, [], 0, false, 0⟩, ⟨9, [], 0, false, 0⟩, ⟨1, [97], 0, false, 0⟩] := by
  have ta : toks nv [97] = [⟨1, [97], 0, false, 0⟩] := (toks_names nv (c := 97) (l := []) (by decide)).1
  refine ⟨?_, ?_, ?_⟩
  · rw [List.cons_append, toks_cons, step_str nv hq, str_run hq _ l h, str_cons, if_pos rfl]
    show _ :: toks nv [97] = _
    rw [ta]
    simp
  · rw [toks_cons, step_str nv hq]
    have := str_run hq [] l h
    rw [List.append_nil] at this
    rw [this]
    simp [str_nil, toks_nil]
  · rw [List.cons_append, toks_cons, step_str nv hq, str_run hq _ l h, str_cons, if_neg (by omega), if_pos rfl]
    show _ :: toks nv [10, 97] = _
    have hw : step nv [10, 97] = (some ⟨9, [], 0, false, 0⟩, [97]) := by
      unfold step
      rw [see_zero, if_neg (by decide), if_pos (by decide)]
      rfl
    rw [toks_cons, hw]
    show _ :: _ :: toks nv [97] = _
    rw [ta]
    rfl

/-! ### one code point alone; white -/
theorem toks_sign {c : Int} (h : 0 < sign c) : toks nv [c] = [⟨sign c, [], 0, false, 0⟩] := by
  have hc : c = 58 ∨ c = 59 ∨ c = 44 ∨ c = 123 ∨ c = 125 ∨ c = 40 ∨ c = 41 ∨ c = 91 ∨ c = 93 := by
    unfold sign at h
    repeat' split at h
    all_goals omega
  have h2 : ∀ k, see [c] (k + 1) = -1 := fun k => by rw [see_succ, see_nil]
  rw [toks_cons, step_plain nv (by omega) (isWhite_no (by omega)) (by omega) (by omega) (.inl (by omega)) (begNum_no (by rw [see_zero]; omega) (by rw [see_zero]; omega) (isDigit_no (by rw [see_zero]; omega)) (by rw [see_zero]; omega)) (.inl (by omega)) (begName_no (by rw [see_zero]; omega) (nameStart_no (by rw [see_zero]; omega)) (by rw [see_zero]; omega)), if_pos h]
  rfl
theorem toks_delim {c : Int} (h1 : 32 < c) (h2 : c < 127) (h3 : c ≠ 34) (h4 : c ≠ 39) (h5 : c ≠ 95) (h6 : ¬ (48 ≤ c ∧ c ≤ 57)) (h7 : ¬ (97 ≤ c ∧ c ≤ 122)) (h8 : ¬ (65 ≤ c ∧ c ≤ 90)) (h9 : sign c = 0) : toks nv [c] = [⟨10, [], 0, false, c⟩] := by
  have hn : begNum [c] = false := by
    unfold begNum unsign
    split
    · rfl
    · rw [see_zero, see_succ, see_nil, isDigit_no (c := c) (by omega)]
      simp [show isDigit (-1) = false from rfl]
  have hb : begName [c] = false := by
    unfold begName
    split
    · rfl
    · rw [see_zero, nameStart_no (c := c) (by omega)]
      simp [escAt, see_succ, see_nil]
  rw [toks_cons, step_plain nv (by rw [see_nil]; omega) (isWhite_no (by omega)) h3 h4 (.inr rfl) hn (.inr rfl) hb, if_neg (by omega)]
  rfl
theorem step_white {c : Int} (r : List Int) (h : isWhite c = true) : step nv (c :: r) = (some ⟨9, [], 0, false, 0⟩, r.dropWhile isWhite) := by
  have hc := isWhite_iff.1 h
  unfold step
  rw [see_zero, if_neg (by omega), if_pos h]
  show (_, (c :: r).dropWhile isWhite) = _
  rw [List.dropWhile_cons, if_pos h]
theorem drop_white (x : List Int) (hx : isWhite (see x 0) = false) : ∀ l : List Int, l.all isWhite = true → (l ++ x).dropWhile isWhite = x
  | [], _ => by
    cases x with
    | nil => rfl
    | cons c r => rw [see_zero] at hx; rw [List.nil_append, List.dropWhile_cons, hx]; rfl
  | c :: l, h => by
    have h' : isWhite c = true ∧ l.all isWhite = true := by simpa using h
    rw [List.cons_append, List.dropWhile_cons, if_pos h'.1, drop_white x hx l h'.2]
theorem toks_white {w : Int} {l : List Int} (h : (w :: l).all isWhite = true) : toks nv (97 :: w :: l ++ [98]) = [⟨1, [97], 0, false, 0⟩, ⟨9, [], 0, false, 0⟩, ⟨1, [98], 0, false, 0⟩] := by
  have h' : isWhite w = true ∧ l.all isWhite = true := by simpa using h
  have hw := isWhite_iff.1 h'.1
  have tb : toks nv [98] = [⟨1, [98], 0, false, 0⟩] := (toks_names nv (c := 98) (l := []) (by decide)).1
  have n1 : name (97 :: (w :: l ++ [98])) = ([97], w :: l ++ [98]) := name_run (x := w :: l ++ [98]) (name_stop (namePt_no (by rw [List.cons_append, see_zero]; omega)) (escAt_no (by rw [List.cons_append, see_zero]; omega))) [97] (by decide)
  rw [List.cons_append, toks_cons, step_start nv _ (by decide), n1]
  rw [if_neg (by rw [List.cons_append, see_zero]; omega)]
  show _ :: toks nv (w :: l ++ [98]) = _
  rw [List.cons_append, toks_cons, step_white nv _ h'.1, drop_white [98] (by decide) l h'.2]
  show _ :: _ :: toks nv [98] = _
  rw [tb]

end Go.Proofs.YtkhgmobependiaaDoor

/- Plain facts on tokens over lists: numbers, escapes. -/
namespace Go.Proofs.YtkhgmobependiaaDoor

variable (nv : List Int → Int)

/-! ### numbers -/
theorem take_digits (x : List Int) (hx : isDigit (see x 0) = false) : ∀ l : List Int, l.all isDigit = true → (l ++ x).takeWhile isDigit = l ∧ (l ++ x).dropWhile isDigit = x
  | [], _ => by
    cases x with
    | nil => exact ⟨rfl, rfl⟩
    | cons c r =>
      rw [see_zero] at hx
      exact ⟨by rw [List.nil_append, List.takeWhile_cons, hx]; rfl, by rw [List.nil_append, List.dropWhile_cons, hx]; rfl⟩
  | c :: l, h => by
    have h' : isDigit c = true ∧ l.all isDigit = true := by simpa using h
    obtain ⟨i1, i2⟩ := take_digits x hx l h'.2
    exact ⟨by rw [List.cons_append, List.takeWhile_cons, if_pos h'.1, i1], by rw [List.cons_append, List.dropWhile_cons, if_pos h'.1, i2]⟩
/-- Of a sign or none. -/
def isSgn (g : List Int) : Prop := g = [] ∨ g = [45] ∨ g = [43]
theorem sgn_parts {g : List Int} (hg : isSgn g) {d : Int} (hd : isDigit d = true) (l : List Int) : unsign (g ++ d :: l) = d :: l ∧ sgn (g ++ d :: l) = g := by
  have h := isDigit_iff.1 hd
  rcases hg with rfl | rfl | rfl
  · exact ⟨unsign_no (by rw [List.nil_append, see_zero]; omega) (by rw [List.nil_append, see_zero]; omega), by unfold sgn; rw [List.nil_append, see_zero, if_neg (by simp; omega)]⟩
  · exact ⟨rfl, rfl⟩
  · exact ⟨rfl, rfl⟩
theorem numText_flat {g d x : List Int} (hg : isSgn g) (hne : d ≠ []) (hd : d.all isDigit = true) (hx : isDigit (see x 0) = false) (hp : pointed x = false) : numText (g ++ d ++ x) = (g ++ d, x, true) := by
  cases d with
  | nil => exact absurd rfl hne
  | cons a d =>
    have h' : isDigit a = true ∧ d.all isDigit = true := by simpa using hd
    obtain ⟨u, s⟩ := sgn_parts hg h'.1 (d ++ x)
    obtain ⟨t1, t2⟩ := take_digits x hx (a :: d) hd
    rw [List.append_assoc, List.cons_append]
    unfold numText
    rw [u, s]
    rw [List.cons_append] at t1 t2
    simp only
    rw [t1, t2, hp]
    rfl
theorem numText_deep {g d f x : List Int} (hg : isSgn g) (hne : d ≠ []) (hd : d.all isDigit = true) (hfe : f ≠ []) (hf : f.all isDigit = true) (hx : isDigit (see x 0) = false) : numText (g ++ d ++ (46 :: f ++ x)) = (g ++ d ++ 46 :: f, x, false) := by
  cases d with
  | nil => exact absurd rfl hne
  | cons a d =>
    cases f with
    | nil => exact absurd rfl hfe
    | cons b f =>
      have h' : isDigit a = true ∧ d.all isDigit = true := by simpa using hd
      have h2 : isDigit b = true ∧ f.all isDigit = true := by simpa using hf
      obtain ⟨u, s⟩ := sgn_parts hg h'.1 (d ++ (46 :: b :: f ++ x))
      obtain ⟨t1, t2⟩ := take_digits (46 :: b :: f ++ x) rfl (a :: d) hd
      obtain ⟨t3, t4⟩ := take_digits x hx (b :: f) hf
      rw [List.append_assoc, List.cons_append]
      unfold numText
      rw [u, s]
      rw [List.cons_append] at t1 t2
      simp only
      rw [t1, t2]
      have hp : pointed (46 :: b :: f ++ x) = true := by
        unfold pointed
        rw [List.cons_append, List.cons_append, see_zero, see_succ, see_zero, h2.1]
        rfl
      rw [hp, if_pos rfl, show (46 :: b :: f ++ x).tail = b :: f ++ x from rfl, t3, t4]
theorem begNum_parts {g d : List Int} (hg : isSgn g) (hne : d ≠ []) (hd : d.all isDigit = true) (x : List Int) : begNum (g ++ d ++ x) = true := by
  cases d with
  | nil => exact absurd rfl hne
  | cons a d =>
    have h' : isDigit a = true ∧ d.all isDigit = true := by simpa using hd
    obtain ⟨u, _⟩ := sgn_parts hg h'.1 (d ++ x)
    unfold begNum
    rw [List.append_assoc, List.cons_append, u, see_zero, h'.1]
    rfl
theorem step_num {l : List Int} (hb : begNum l = true) : step nv l = (some (numeric nv l).1, (numeric nv l).2) := by
  have hc : see l 0 = 43 ∨ see l 0 = 45 ∨ (48 ≤ see l 0 ∧ see l 0 ≤ 57) ∨ see l 0 = 46 := by
    by_cases h1 : see l 0 = 43
    · exact .inl h1
    · by_cases h2 : see l 0 = 45
      · exact .inr (.inl h2)
      · unfold begNum at hb
        rw [unsign_no h1 h2, Bool.or_eq_true, Bool.and_eq_true, beq_iff_eq] at hb
        rcases hb with h | h
        · exact .inr (.inr (.inl (isDigit_iff.1 h)))
        · exact .inr (.inr (.inr h.1))
  unfold step
  rw [if_neg (by omega), isWhite_no (by omega), if_neg (by decide), if_neg (by omega), if_neg (by omega), if_pos hb]
theorem toks_step {l : List Int} {t : Tk} {r : List Int} (h : step nv l = (some t, r)) (hne : l ≠ []) : toks nv l = t :: toks nv r := by
  cases l with
  | nil => exact absurd rfl hne
  | cons c l => rw [toks_cons, h]; rfl
/-- What stands behind a number's text, of each kind that the law draws. -/
theorem toks_behind {t x : List Int} {w : Bool} (hb : begNum (t ++ x) = true) (hne : t ++ x ≠ []) (ht : numText (t ++ x) = (t, x, w)) :
    (x = [] → toks nv (t ++ x) = [⟨6, [], nv t, w, 0⟩])
    ∧ (x = [37] → toks nv (t ++ x) = [⟨7, [], nv t, false, 0⟩])
    ∧ (x = [112, 120] → toks nv (t ++ x) = [⟨8, [112, 120], nv t, false, 0⟩])
    ∧ (x = [32, 112, 120] → toks nv (t ++ x) = [⟨6, [], nv t, w, 0⟩, ⟨9, [], 0, false, 0⟩, ⟨1, [112, 120], 0, false, 0⟩])
    ∧ (x = [46] → toks nv (t ++ x) = [⟨6, [], nv t, w, 0⟩, ⟨10, [], 0, false, 46⟩])
    ∧ (x = [45] → toks nv (t ++ x) = [⟨6, [], nv t, w, 0⟩, ⟨10, [], 0, false, 45⟩])
    ∧ (x = [43, 49] → toks nv (t ++ x) = [⟨6, [], nv t, w, 0⟩, ⟨6, [], nv [43, 49], true, 0⟩]) := by
  have hs := step_num nv hb
  have hpx : toks nv [112, 120] = [⟨1, [112, 120], 0, false, 0⟩] := (toks_names nv (c := 112) (l := [120]) (by decide)).1
  have flat : begName x = false → see x 0 ≠ 37 → toks nv (t ++ x) = ⟨6, [], nv t, w, 0⟩ :: toks nv x := fun h1 h2 => by
    refine toks_step nv ?_ hne
    rw [hs]
    unfold numeric
    rw [ht]
    simp only
    rw [h1, if_neg (by decide), if_neg h2]
  refine ⟨?_, ?_, ?_, ?_, ?_, ?_, ?_⟩
  · rintro rfl
    rw [flat rfl (by decide), toks_nil]
  · rintro rfl
    refine toks_step nv (r := []) ?_ hne
    rw [hs]
    unfold numeric
    rw [ht]
    simp only
    rw [if_neg (by decide), if_pos (show see [37] 0 = 37 from rfl)]
    rfl
  · rintro rfl
    refine toks_step nv (r := []) ?_ hne
    rw [hs]
    unfold numeric
    rw [ht]
    simp only
    rw [if_pos (by decide), show name [112, 120] = ([112, 120], []) by decide]
  · rintro rfl
    rw [flat (by decide) (by decide), toks_cons, step_white nv _ (by decide)]
    show _ :: _ :: toks nv [112, 120] = _
    rw [hpx]
  · rintro rfl
    rw [flat (by decide) (by decide), toks_delim nv (by decide) (by decide) (by decide) (by decide) (by decide) (by decide) (by decide) (by decide) (by decide)]
  · rintro rfl
    rw [flat (by decide) (by decide), toks_delim nv (by decide) (by decide) (by decide) (by decide) (by decide) (by decide) (by decide) (by decide) (by decide)]
  · rintro rfl
    have h1 : toks nv [43, 49] = [⟨6, [], nv [43, 49], true, 0⟩] := by
      refine toks_step nv (r := []) ?_ (by simp)
      rw [step_num nv (by decide)]
      unfold numeric
      rw [show numText [43, 49] = ([43, 49], [], true) by decide]
      rfl
    rw [flat (by decide) (by decide), h1]

/-! ### escapes -/
def hexVal (v : Int) (h : List Int) : Int := h.foldl (fun n c => n * 16 + hexv c) v
def isHex (c : Int) : Bool := decide (0 ≤ hexv c)
theorem isHex_iff {c : Int} : isHex c = true ↔ 0 ≤ hexv c := by simp [isHex]
theorem hexRun_all : ∀ (k : Nat) (v : Int) (h x : List Int), h.all isHex = true → h.length ≤ k → (h.length = k ∨ hexv (see x 0) < 0) → hexRun k v (h ++ x) = (hexVal v h, x)
  | 0, v, h, x, _, hl, _ => by
    have : h = [] := List.length_eq_zero_iff.1 (by omega)
    subst this
    rfl
  | k + 1, v, [], x, _, _, hs => by
    have hs : hexv (see x 0) < 0 := hs.resolve_left (by simp)
    cases x with
    | nil => rfl
    | cons c r =>
      rw [see_zero] at hs
      rw [List.nil_append, hexRun, if_neg (by omega)]
      rfl
  | k + 1, v, c :: h, x, ha, hl, hs => by
    have h' : isHex c = true ∧ h.all isHex = true := by simpa using ha
    rw [List.cons_append, hexRun, if_pos (isHex_iff.1 h'.1), hexRun_all k _ h x h'.2 (by simp at hl; omega) (by simp at hs; omega)]
    rfl
theorem escd_hex {c : Int} {h x : List Int} (ha : (c :: h).all isHex = true) (hl : (c :: h).length ≤ 6) (hs : (c :: h).length = 6 ∨ hexv (see x 0) < 0) :
    escd (92 :: (c :: h ++ x)) = (hexPoint (hexVal 0 (c :: h)), if isWhite (see x 0) then x.tail else x) := by
  have h' : isHex c = true ∧ h.all isHex = true := by simpa using ha
  have hr := hexRun_all 6 0 (c :: h) x ha hl hs
  unfold escd
  rw [see_succ, show (92 :: (c :: h ++ x)).tail = c :: h ++ x from rfl, hr, List.cons_append, see_zero, if_neg (by have := isHex_iff.1 h'.1; omega)]
theorem hex_plain {c : Int} (h : isHex c = true) : 48 ≤ c ∧ c ≤ 102 := by
  have := isHex_iff.1 h
  unfold hexv at this
  repeat' split at this
  all_goals omega
theorem escAt_hex {c : Int} (r : List Int) (h : isHex c = true) : escAt (92 :: c :: r) = true := by
  have := hex_plain h
  unfold escAt
  rw [see_zero, see_succ, see_zero]
  simp
  omega
theorem step_esc {r : List Int} (h : escAt (92 :: r) = true) : step nv (92 :: r) = if see (name (92 :: r)).2 0 = 40 then (some ⟨20, (name (92 :: r)).1, 0, false, 0⟩, (name (92 :: r)).2.tail) else (some ⟨1, (name (92 :: r)).1, 0, false, 0⟩, (name (92 :: r)).2) := by
  unfold step
  rw [see_zero, if_neg (by omega), if_neg (by decide), if_neg (by decide), if_neg (by omega), begNum_no (by rw [see_zero]; decide) (by rw [see_zero]; decide) (by rw [see_zero]; decide) (by rw [see_zero]; decide), if_neg (by decide), if_neg (by omega), if_pos]
  unfold begName
  rw [see_zero, if_neg (by decide), h]
  rfl
/-- An escape of hexadecimal digits, and a g or nothing behind it. -/
theorem toks_escape {c : Int} {h x e : List Int} (ha : (c :: h).all isHex = true) (hl : (c :: h).length ≤ 6) (he : e = [] ∨ e = [103]) (hx : x = 32 :: e ∨ (x = e ∧ (c :: h).length = 6 ∧ e = [103])) :
    toks nv (92 :: (c :: h ++ x)) = [⟨1, hexPoint (hexVal 0 (c :: h)) :: e, 0, false, 0⟩] ∧ toks nv (34 :: (92 :: (c :: h ++ x) ++ [34])) = [⟨4, hexPoint (hexVal 0 (c :: h)) :: e, 0, false, 0⟩] := by
  have hc : isHex c = true := List.all_eq_true.1 ha c (List.mem_cons_self ..)
  have hcp := hex_plain hc
  have d1 : escd (92 :: (c :: h ++ x)) = (hexPoint (hexVal 0 (c :: h)), e) := by
    rcases hx with rfl | ⟨rfl, h6, rfl⟩
    · rw [escd_hex ha hl (.inr (by rw [see_zero]; decide)), see_zero]
      rfl
    · rw [escd_hex ha hl (.inl h6), see_zero]
      rfl
  have d2 : escd (92 :: (c :: h ++ (x ++ [34]))) = (hexPoint (hexVal 0 (c :: h)), e ++ [34]) := by
    rcases hx with rfl | ⟨rfl, h6, rfl⟩
    · rw [escd_hex ha hl (.inr (by rw [List.cons_append, see_zero]; decide)), List.cons_append, see_zero]
      rfl
    · rw [escd_hex ha hl (.inl h6)]
      rfl
  have ne : name e = (e, []) := by rcases he with rfl | rfl <;> decide
  have n1 : name (92 :: (c :: h ++ x)) = (hexPoint (hexVal 0 (c :: h)) :: e, []) := by
    rw [name_cons, if_neg (by decide), List.cons_append, if_pos (escAt_hex _ hc), ← List.cons_append, d1, ne]
  have se : str 34 (e ++ [34]) = (some e, []) := by rcases he with rfl | rfl <;> decide
  refine ⟨?_, ?_⟩
  · rw [toks_cons, step_esc nv (by rw [List.cons_append]; exact escAt_hex _ hc), n1, if_neg (by rw [see_nil]; decide)]
    rfl
  · refine toks_step nv (r := []) ?_ (by simp)
    rw [step_str nv (.inl rfl), List.cons_append, str_cons, if_neg (by decide), if_neg (by decide), if_pos rfl, if_neg (by simp), if_neg (by rw [List.cons_append, List.cons_append, see_zero]; omega), List.append_assoc, d2, se]
    rfl

end Go.Proofs.YtkhgmobependiaaDoor

/- Things and rules of tokens, in plain words over lists (chapter 5): no program in this text. A list ks holds the tokens' kinds. -/
namespace Go.Proofs.YtkhgmobependiaaDoor

/-- The kind that closes what a kind opens; 0: it opens nothing. -/
def clos (k : Int) : Int := if k = 14 then 15 else if k = 16 ∨ k = 20 then 17 else if k = 18 then 19 else 0
/-- What is open behind a token of the kind k, the innermost first. -/
def opn (st : List Int) (k : Int) : List Int := if 0 < clos k then clos k :: st else if st.head? = some k then st.tail else st
/-- How many tokens it takes until nothing is open (or all). -/
def run : List Int → List Int → Nat
  | _, [] => 0
  | st, k :: r => if opn st k = [] then 1 else 1 + run (opn st k) r
/-- What is open at last. -/
def opns (st : List Int) (ks : List Int) : List Int := ks.foldl opn st

theorem clos_cases (k : Int) : (k = 14 ∧ clos k = 15) ∨ ((k = 16 ∨ k = 20) ∧ clos k = 17) ∨ (k = 18 ∧ clos k = 19) ∨ (k ≠ 14 ∧ k ≠ 16 ∧ k ≠ 20 ∧ k ≠ 18 ∧ clos k = 0) := by
  unfold clos
  by_cases h1 : k = 14
  · exact .inl ⟨h1, if_pos h1⟩
  · by_cases h2 : k = 16 ∨ k = 20
    · exact .inr (.inl ⟨h2, by rw [if_neg h1, if_pos h2]⟩)
    · by_cases h3 : k = 18
      · exact .inr (.inr (.inl ⟨h3, by rw [if_neg h1, if_neg h2, if_pos h3]⟩))
      · exact .inr (.inr (.inr ⟨h1, fun e => h2 (.inl e), fun e => h2 (.inr e), h3, by rw [if_neg h1, if_neg h2, if_neg h3]⟩))
theorem run_le : ∀ (st ks : List Int), run st ks ≤ ks.length
  | _, [] => Nat.le_refl _
  | st, k :: r => by
    have := run_le (opn st k) r
    unfold run
    rw [List.length_cons]
    split <;> omega
theorem run_pos (st : List Int) (k : Int) (r : List Int) : 0 < run st (k :: r) := by
  unfold run
  split <;> omega
theorem run_cons_nil {st : List Int} {k : Int} (r : List Int) (h : opn st k = []) : run st (k :: r) = 1 := by rw [run, if_pos h]
theorem run_cons_more {st : List Int} {k : Int} (r : List Int) (h : opn st k ≠ []) : run st (k :: r) = 1 + run (opn st k) r := by rw [run, if_neg h]
theorem opn_open {st : List Int} {k : Int} (h : 0 < clos k) : opn st k = clos k :: st := if_pos h
theorem opn_shut {st : List Int} {k : Int} (h : clos k = 0) : opn st k = if st.head? = some k then st.tail else st := by
  unfold opn
  rw [if_neg (by omega)]
theorem clos_nonneg (k : Int) : 0 ≤ clos k := by rcases clos_cases k with h | h | h | h <;> omega
theorem opn_nil {k : Int} (h : clos k = 0) : opn [] k = [] := by rw [opn_shut h]; simp

/-- Where the first thing begins whose kind is wanted. -/
def uptoF (p : Int → Bool) : Nat → List Int → Nat
  | 0, _ => 0
  | _ + 1, [] => 0
  | f + 1, k :: r => if p k then 0 else run [] (k :: r) + uptoF p f ((k :: r).drop (run [] (k :: r)))
def upto (p : Int → Bool) (ks : List Int) : Nat := uptoF p ks.length ks
theorem uptoF_more (p : Int → Bool) : ∀ (f g : Nat) (l : List Int), l.length ≤ f → l.length ≤ g → uptoF p f l = uptoF p g l
  | 0, 0, _, _, _ => rfl
  | 0, g + 1, l, hf, _ => by
    have : l = [] := List.length_eq_zero_iff.1 (by omega)
    subst this
    rfl
  | f + 1, 0, l, _, hg => by
    have : l = [] := List.length_eq_zero_iff.1 (by omega)
    subst this
    rfl
  | f + 1, g + 1, [], _, _ => rfl
  | f + 1, g + 1, k :: r, hf, hg => by
    have hp := run_pos [] k r
    have hd : ((k :: r).drop (run [] (k :: r))).length ≤ r.length := by rw [List.length_drop, List.length_cons]; omega
    rw [List.length_cons] at hf hg
    simp only [uptoF, uptoF_more p f g _ (Nat.le_trans hd (by omega)) (Nat.le_trans hd (by omega))]
theorem upto_nil (p : Int → Bool) : upto p [] = 0 := rfl
theorem upto_cons (p : Int → Bool) (k : Int) (r : List Int) : upto p (k :: r) = if p k then 0 else run [] (k :: r) + upto p ((k :: r).drop (run [] (k :: r))) := by
  have hp := run_pos [] k r
  have hd : ((k :: r).drop (run [] (k :: r))).length ≤ r.length := by rw [List.length_drop, List.length_cons]; omega
  unfold upto
  rw [List.length_cons, uptoF, uptoF_more p r.length _ _ hd (Nat.le_refl _)]
theorem upto_le (p : Int → Bool) : ∀ (n : Nat) (ks : List Int), ks.length ≤ n → upto p ks ≤ ks.length
  | _, [], _ => Nat.le_refl _
  | 0, k :: r, h => by simp at h
  | n + 1, k :: r, h => by
    have hp := run_pos [] k r
    have hl := run_le [] (k :: r)
    have hd : ((k :: r).drop (run [] (k :: r))).length = (k :: r).length - run [] (k :: r) := List.length_drop
    have ih := upto_le p n ((k :: r).drop (run [] (k :: r))) (by rw [List.length_cons] at h hd; omega)
    rw [upto_cons]
    split
    · exact Nat.zero_le _
    · omega

/-! ### the bottom of what is open -/
theorem opn_bottom {st : List Int} {c k : Int} (h : st ≠ [] ∨ k ≠ c ∨ 0 < clos k) : opn (st ++ [c]) k = opn st k ++ [c] := by
  rcases (show 0 < clos k ∨ clos k = 0 by have := clos_nonneg k; omega) with h1 | h1
  · rw [opn_open h1, opn_open h1]
    rfl
  · rw [opn_shut h1, opn_shut h1]
    cases st with
    | nil =>
      have hk : k ≠ c := by
        rcases h with h | h | h
        · exact absurd rfl h
        · exact h
        · omega
      simp [Ne.symm hk]
    | cons a s =>
      by_cases e : a = k
      · rw [if_pos (by simp [e]), if_pos (by simp [e])]
        rfl
      · rw [if_neg (by simp [e]), if_neg (by simp [e])]
theorem run_bottom : ∀ (ks st : List Int) (c : Int), (st ≠ [] ∨ ∀ k, ks.head? = some k → k ≠ c ∨ 0 < clos k) → run (st ++ [c]) ks = run st ks + run [c] (ks.drop (run st ks))
  | [], st, c, _ => rfl
  | k :: r, st, c, h => by
    have hb : opn (st ++ [c]) k = opn st k ++ [c] := by
      apply opn_bottom
      rcases h with h | h
      · exact .inl h
      · exact .inr (h k rfl)
    have hne : opn (st ++ [c]) k ≠ [] := by rw [hb]; simp
    rw [run_cons_more r hne, hb]
    by_cases h0 : opn st k = []
    · rw [run_cons_nil r h0, h0]
      rfl
    · rw [run_cons_more r h0, run_bottom r (opn st k) c (.inl h0), Nat.add_comm 1 (run (opn st k) r), List.drop_succ_cons]
      omega
theorem opns_bottom : ∀ (ks st : List Int) (c : Int), (st ≠ [] ∨ ∀ k, ks.head? = some k → k ≠ c ∨ 0 < clos k) → opns (st ++ [c]) (ks.take (run st ks)) = opns st (ks.take (run st ks)) ++ [c]
  | [], st, c, _ => rfl
  | k :: r, st, c, h => by
    have hb : opn (st ++ [c]) k = opn st k ++ [c] := by
      apply opn_bottom
      rcases h with h | h
      · exact .inl h
      · exact .inr (h k rfl)
    by_cases h0 : opn st k = []
    · rw [run_cons_nil r h0]
      show opn (st ++ [c]) k = opn st k ++ [c]
      exact hb
    · rw [run_cons_more r h0, Nat.add_comm 1]
      show opns (opn (st ++ [c]) k) (r.take _) = opns (opn st k) (r.take _) ++ [c]
      rw [hb]
      exact opns_bottom r (opn st k) c (.inl h0)
/-- A thing is closed, or it is all. -/
theorem opns_run : ∀ (ks st : List Int), opns st (ks.take (run st ks)) = [] ∨ run st ks = ks.length
  | [], _ => .inr rfl
  | k :: r, st => by
    by_cases h0 : opn st k = []
    · rw [run_cons_nil r h0]
      exact .inl h0
    · rw [run_cons_more r h0, Nat.add_comm 1, List.length_cons]
      rcases opns_run r (opn st k) with h | h
      · exact .inl h
      · exact .inr (by omega)
theorem opns_append (st a b : List Int) : opns st (a ++ b) = opns (opns st a) b := List.foldl_append

/-! ### a block's end -/
def is15 (k : Int) : Bool := k == 15
theorem clos15 : clos 15 = 0 := by decide
theorem block_run : ∀ (n : Nat) (b : List Int), b.length ≤ n →
    (upto is15 b < b.length ∧ run [15] b = upto is15 b + 1 ∧ opns [15] (b.take (run [15] b)) = []) ∨ (upto is15 b = b.length ∧ run [15] b = b.length ∧ opns [15] b ≠ [])
  | _, [], _ => .inr ⟨rfl, rfl, by decide⟩
  | 0, k :: r, h => by simp at h
  | n + 1, k :: r, h => by
    by_cases hk : k = 15
    · subst hk
      have h1 : opn [15] 15 = [] := by decide
      refine .inl ⟨?_, ?_, ?_⟩
      · rw [upto_cons]
        simp [is15]
      · rw [upto_cons, run_cons_nil r h1]
        simp [is15]
      · rw [run_cons_nil r h1]
        exact h1
    · have hp := run_pos [] k r
      have hl := run_le [] (k :: r)
      have hd : ((k :: r).drop (run [] (k :: r))).length = (k :: r).length - run [] (k :: r) := List.length_drop
      have hh : ∀ j, (k :: r).head? = some j → j ≠ 15 ∨ 0 < clos j := fun j e => by
        obtain rfl : k = j := by simpa using e
        exact .inl hk
      have hr : run [15] (k :: r) = run [] (k :: r) + run [15] ((k :: r).drop (run [] (k :: r))) := run_bottom (k :: r) [] 15 (.inr hh)
      have ho : opns [15] ((k :: r).take (run [] (k :: r))) = opns [] ((k :: r).take (run [] (k :: r))) ++ [15] := opns_bottom (k :: r) [] 15 (.inr hh)
      have hu : upto is15 (k :: r) = run [] (k :: r) + upto is15 ((k :: r).drop (run [] (k :: r))) := by
        rw [upto_cons, if_neg (by simpa [is15] using hk)]
      have ih := block_run n ((k :: r).drop (run [] (k :: r))) (by rw [List.length_cons] at h hd; omega)
      rcases opns_run (k :: r) [] with hc | hc
      · rw [hc, List.nil_append] at ho
        have hs : ∀ m, opns [15] ((k :: r).take (run [] (k :: r) + m)) = opns [15] (((k :: r).drop (run [] (k :: r))).take m) := fun m => by
          rw [List.take_add, opns_append, ho]
        rw [hu, hr]
        rcases ih with ⟨i1, i2, i3⟩ | ⟨i1, i2, i3⟩
        · refine .inl ⟨by omega, by omega, ?_⟩
          rw [hs]
          exact i3
        · refine .inr ⟨by omega, by omega, ?_⟩
          have := hs ((k :: r).drop (run [] (k :: r))).length
          rw [List.take_of_length_le (Nat.le_refl _), List.take_of_length_le (by omega)] at this
          rw [this]
          exact i3
      · have hdn : (k :: r).drop (run [] (k :: r)) = [] := List.drop_eq_nil_iff.2 (by omega)
        rw [hu, hr, hdn]
        refine .inr ⟨by rw [upto_nil]; omega, by show _ + 0 = _; omega, ?_⟩
        rw [hc, List.take_of_length_le (Nat.le_refl _)] at ho
        rw [ho]
        simp

end Go.Proofs.YtkhgmobependiaaDoor
