/- Plain facts on tokens over lists: names, strings, signs, white. -/
import Derived.Test.YtgfbgfcakblpoaaTkSpec
namespace Go.Proofs.Ytgfbgfcakblpoaa

def letter (c : Int) : Bool := (decide (97 ≤ c) && decide (c ≤ 122)) || (decide (65 ≤ c) && decide (c ≤ 90))
theorem letter_iff {c : Int} : letter c = true ↔ (97 ≤ c ∧ c ≤ 122) ∨ (65 ≤ c ∧ c ≤ 90) := by simp [letter]
theorem nameStart_iff {c : Int} : nameStart c = true ↔ (97 ≤ c ∧ c ≤ 122) ∨ (65 ≤ c ∧ c ≤ 90) ∨ c = 95 ∨ 128 ≤ c := by
  simp only [nameStart, Bool.or_eq_true, Bool.and_eq_true, decide_eq_true_eq, beq_iff_eq]
  omega
theorem namePt_iff {c : Int} : namePt c = true ↔ (97 ≤ c ∧ c ≤ 122) ∨ (65 ≤ c ∧ c ≤ 90) ∨ c = 95 ∨ 128 ≤ c ∨ (48 ≤ c ∧ c ≤ 57) ∨ c = 45 := by
  simp only [namePt, Bool.or_eq_true, nameStart_iff, isDigit_iff, beq_iff_eq]
  omega
theorem isWhite_iff {c : Int} : isWhite c = true ↔ c = 9 ∨ c = 10 ∨ c = 32 := by
  simp only [isWhite, Bool.or_eq_true, beq_iff_eq]
  omega
theorem ff {b : Bool} (h : ¬ b = true) : b = false := by cases b <;> simp_all
theorem isDigit_no {c : Int} (h : ¬ (48 ≤ c ∧ c ≤ 57)) : isDigit c = false := ff (fun e => h (isDigit_iff.1 e))
theorem nameStart_no {c : Int} (h : ¬ ((97 ≤ c ∧ c ≤ 122) ∨ (65 ≤ c ∧ c ≤ 90) ∨ c = 95 ∨ 128 ≤ c)) : nameStart c = false := ff (fun e => h (nameStart_iff.1 e))
theorem namePt_no {c : Int} (h : ¬ ((97 ≤ c ∧ c ≤ 122) ∨ (65 ≤ c ∧ c ≤ 90) ∨ c = 95 ∨ 128 ≤ c ∨ (48 ≤ c ∧ c ≤ 57) ∨ c = 45)) : namePt c = false := ff (fun e => h (namePt_iff.1 e))
theorem isWhite_no {c : Int} (h : ¬ (c = 9 ∨ c = 10 ∨ c = 32)) : isWhite c = false := ff (fun e => h (isWhite_iff.1 e))
theorem letter_start {c : Int} (h : letter c = true) : nameStart c = true := nameStart_iff.2 (by have := letter_iff.1 h; omega)
theorem start_pt {c : Int} (h : nameStart c = true) : namePt c = true := namePt_iff.2 (by have := nameStart_iff.1 h; omega)
theorem escAt_no {l : List Int} (h : see l 0 ≠ 92) : escAt l = false := by simp [escAt, h]

/-! ### names -/
theorem name_stop {l : List Int} (h : namePt (see l 0) = false) (he : escAt l = false) : name l = ([], l) := by
  cases l with
  | nil => rfl
  | cons c r =>
    rw [see_zero] at h
    rw [name_cons, h, he]
    rfl
theorem name_run {x : List Int} (hx : name x = ([], x)) : ∀ l : List Int, l.all namePt = true → name (l ++ x) = (l, x)
  | [], _ => hx
  | c :: l, h => by
    have h' : namePt c = true ∧ l.all namePt = true := by simpa using h
    rw [List.cons_append, name_cons, if_pos h'.1, name_run hx l h'.2]
theorem all_letters {l : List Int} (h : l.all letter = true) : l.all namePt = true := List.all_eq_true.2 fun c hc => start_pt (letter_start (List.all_eq_true.1 h c hc))

/-! ### which step is taken -/
variable (nv : List Int → Int)
theorem unsign_no {l : List Int} (h1 : see l 0 ≠ 43) (h2 : see l 0 ≠ 45) : unsign l = l := by simp [unsign, h1, h2]
theorem begNum_no {l : List Int} (h1 : see l 0 ≠ 43) (h2 : see l 0 ≠ 45) (h3 : isDigit (see l 0) = false) (h4 : see l 0 ≠ 46) : begNum l = false := by
  unfold begNum
  rw [unsign_no h1 h2, h3]
  simp [h4]
theorem begName_no {l : List Int} (h1 : see l 0 ≠ 45) (h2 : nameStart (see l 0) = false) (h3 : see l 0 ≠ 92) : begName l = false := by
  unfold begName
  rw [if_neg (by simpa using h1), h2, escAt_no h3]
  rfl
theorem step_start {c : Int} (r : List Int) (h : nameStart c = true) : step nv (c :: r) = if see (name (c :: r)).2 0 = 40 then (some ⟨20, (name (c :: r)).1, 0, false, 0⟩, (name (c :: r)).2.tail) else (some ⟨1, (name (c :: r)).1, 0, false, 0⟩, (name (c :: r)).2) := by
  have hc := nameStart_iff.1 h
  unfold step
  rw [see_zero, if_neg (by omega), isWhite_no (by omega), if_neg (by decide), if_neg (by omega), if_neg (by omega), begNum_no (by rw [see_zero]; omega) (by rw [see_zero]; omega) (isDigit_no (by rw [see_zero]; omega)) (by rw [see_zero]; omega), if_neg (by decide), if_neg (by omega), if_pos]
  unfold begName
  rw [see_zero, if_neg (by simp; omega), h]
  rfl
theorem step_at {r : List Int} (h : begName r = true) : step nv (64 :: r) = (some ⟨2, (name r).1, 0, false, 0⟩, (name r).2) := by
  unfold step
  rw [see_zero, if_neg (by omega), if_neg (by decide), if_neg (by decide), if_neg (by omega), begNum_no (by rw [see_zero]; decide) (by rw [see_zero]; decide) (by rw [see_zero]; decide) (by rw [see_zero]; decide), if_neg (by decide), if_pos ⟨rfl, h⟩]
  rfl
theorem step_hash {r : List Int} (h : namePt (see r 0) = true) : step nv (35 :: r) = (some ⟨3, (name r).1, 0, false, 0⟩, (name r).2) := by
  unfold step
  rw [see_zero, see_succ, if_neg (by omega), if_neg (by decide), if_neg (by decide), if_pos ⟨rfl, by rw [h]; rfl⟩]
  rfl
theorem step_dash {r : List Int} (h1 : begName (45 :: r) = true) (h2 : isDigit (see r 0) = false) (h3 : see r 0 ≠ 46) : step nv (45 :: r) = if see (name (45 :: r)).2 0 = 40 then (some ⟨20, (name (45 :: r)).1, 0, false, 0⟩, (name (45 :: r)).2.tail) else (some ⟨1, (name (45 :: r)).1, 0, false, 0⟩, (name (45 :: r)).2) := by
  have hn : begNum (45 :: r) = false := by
    unfold begNum
    rw [show unsign (45 :: r) = r from rfl, h2]
    simp [h3]
  unfold step
  rw [see_zero, if_neg (by omega), if_neg (by decide), if_neg (by decide), if_neg (by omega), hn, if_neg (by decide), if_neg (by omega), if_pos h1]
/-- Where nothing else fits: a sign's token, or any other code point's. -/
theorem step_plain {c : Int} {r : List Int} (h1 : ¬ (c = 47 ∧ see r 0 = 42)) (h2 : isWhite c = false) (h3 : c ≠ 34) (h4 : c ≠ 39) (h5 : c ≠ 35 ∨ (namePt (see r 0) || escAt r) = false) (h6 : begNum (c :: r) = false) (h7 : c ≠ 64 ∨ begName r = false) (h8 : begName (c :: r) = false) :
    step nv (c :: r) = if 0 < sign c then (some ⟨sign c, [], 0, false, 0⟩, r) else (some ⟨10, [], 0, false, c⟩, r) := by
  unfold step
  rw [see_zero, see_succ, if_neg h1, h2, if_neg (by decide), if_neg (by omega), if_neg (by
    rintro ⟨e, h⟩
    rcases h5 with h5 | h5
    · exact h5 e
    · rw [show (c :: r).tail = r from rfl, h5] at h; cases h), h6, if_neg (by decide), if_neg (by
    rintro ⟨e, h⟩
    rcases h7 with h7 | h7
    · exact h7 e
    · rw [show (c :: r).tail = r from rfl, h7] at h; cases h), h8, if_neg (by decide)]
  rfl

theorem toks_names {c : Int} {l : List Int} (h : (c :: l).all letter = true) :
    toks nv (c :: l) = [⟨1, c :: l, 0, false, 0⟩] ∧ toks nv (64 :: c :: l) = [⟨2, c :: l, 0, false, 0⟩] ∧ toks nv (35 :: c :: l) = [⟨3, c :: l, 0, false, 0⟩]
    ∧ toks nv (c :: l ++ [40]) = [⟨20, c :: l, 0, false, 0⟩] ∧ toks nv (45 :: c :: l) = [⟨1, 45 :: c :: l, 0, false, 0⟩] ∧ toks nv (45 :: 45 :: c :: l) = [⟨1, 45 :: 45 :: c :: l, 0, false, 0⟩]
    ∧ toks nv (46 :: c :: l) = [⟨10, [], 0, false, 46⟩, ⟨1, c :: l, 0, false, 0⟩] ∧ toks nv (51 :: c :: l) = [⟨8, c :: l, nv [51], false, 0⟩] := by
  have hp := all_letters h
  have hc : letter c = true := List.all_eq_true.1 h c (List.mem_cons_self ..)
  have hcs := letter_start hc
  have hci := letter_iff.1 hc
  have n0 : name (c :: l) = (c :: l, []) := by simpa using name_run (x := []) rfl (c :: l) hp
  have e0 : step nv (c :: l) = (some ⟨1, c :: l, 0, false, 0⟩, []) := by
    rw [step_start nv l hcs, n0, if_neg (by rw [see_nil]; decide)]
  have hb : begName (c :: l) = true := by
    unfold begName
    rw [see_zero, if_neg (by simp; omega), hcs]
    rfl
  have t0 : toks nv (c :: l) = [⟨1, c :: l, 0, false, 0⟩] := by rw [toks_cons, e0]; rfl
  refine ⟨t0, ?_, ?_, ?_, ?_, ?_, ?_, ?_⟩
  · rw [toks_cons, step_at nv hb, n0]; rfl
  · rw [toks_cons, step_hash nv (by rw [see_zero]; exact start_pt hcs), n0]; rfl
  · have n1 : name (c :: l ++ [40]) = (c :: l, [40]) := name_run (x := [40]) (name_stop (by decide) (by decide)) (c :: l) hp
    rw [List.cons_append] at n1 ⊢
    rw [toks_cons, step_start nv _ hcs, n1, if_pos (show see (c :: l, [(40 : Int)]).2 0 = 40 from rfl)]
    rfl
  · have hb' : begName (45 :: c :: l) = true := by
      unfold begName
      rw [if_pos (show (see (45 :: c :: l) 0 == 45) = true from rfl), see_succ, see_zero, hcs]
      rfl
    have n1 : name (45 :: c :: l) = (45 :: c :: l, []) := by simpa using name_run (x := []) rfl (45 :: c :: l) (by rw [List.all_cons, hp]; rfl)
    rw [toks_cons, step_dash nv hb' (by rw [see_zero]; exact isDigit_no (by omega)) (by rw [see_zero]; omega), n1, if_neg (by rw [see_nil]; decide)]
    rfl
  · have hb' : begName (45 :: 45 :: c :: l) = true := by
      unfold begName
      rw [if_pos (show (see (45 :: 45 :: c :: l) 0 == 45) = true from rfl), see_succ, see_zero]
      simp
    have n1 : name (45 :: 45 :: c :: l) = (45 :: 45 :: c :: l, []) := by simpa using name_run (x := []) rfl (45 :: 45 :: c :: l) (by rw [List.all_cons, List.all_cons, hp]; rfl)
    rw [toks_cons, step_dash nv hb' (by rw [see_zero]; decide) (by rw [see_zero]; decide), n1, if_neg (by rw [see_nil]; decide)]
    rfl
  · have hn : begNum (46 :: c :: l) = false := by
      unfold begNum
      rw [unsign_no (by rw [see_zero]; decide) (by rw [see_zero]; decide), see_zero, see_succ, see_zero, isDigit_no (c := c) (by omega)]
      rfl
    rw [toks_cons, step_plain nv (by omega) (by decide) (by decide) (by decide) (.inl (by decide)) hn (.inl (by decide)) (begName_no (by rw [see_zero]; decide) (by rw [see_zero]; decide) (by rw [see_zero]; decide)), if_neg (by decide)]
    show _ :: toks nv (c :: l) = _
    rw [t0]
  · have hn : begNum (51 :: c :: l) = true := by
      unfold begNum
      rw [unsign_no (by rw [see_zero]; decide) (by rw [see_zero]; decide), see_zero]
      rfl
    have ht : numText (51 :: c :: l) = ([51], c :: l, true) := by
      unfold numText
      rw [unsign_no (by rw [see_zero]; decide) (by rw [see_zero]; decide)]
      have hd : isDigit c = false := isDigit_no (by omega)
      simp only [List.takeWhile_cons, List.dropWhile_cons, hd, show isDigit 51 = true from rfl, if_true]
      rw [if_neg (by simp only [pointed, Bool.false_eq_true, if_false]; rw [see_zero]; simp; omega)]
      rfl
    have hs : step nv (51 :: c :: l) = (some ⟨8, c :: l, nv [51], false, 0⟩, []) := by
      unfold step
      rw [see_zero, if_neg (by omega), if_neg (by decide), if_neg (by decide), if_neg (by omega), if_pos hn]
      unfold numeric
      rw [ht]
      simp only
      rw [if_pos hb, n0]
    rw [toks_cons, hs]
    rfl

/-! ### strings -/
def inStr (c : Int) : Bool := c != 34 && c != 39 && c != 92 && c != 10
theorem str_run {q : Int} (hq : q = 34 ∨ q = 39) (x : List Int) : ∀ l : List Int, l.all inStr = true → str q (l ++ x) = ((str q x).1.map (l ++ ·), (str q x).2)
  | [], _ => by simp
  | c :: l, h => by
    have h' : inStr c = true ∧ l.all inStr = true := by simpa using h
    have hc : c ≠ 34 ∧ c ≠ 39 ∧ c ≠ 92 ∧ c ≠ 10 := by
      have := h'.1
      simp only [inStr, Bool.and_eq_true, bne_iff_ne] at this
      exact ⟨this.1.1.1, this.1.1.2, this.1.2, this.2⟩
    rw [List.cons_append, str_cons, if_neg (by omega), if_neg hc.2.2.2, if_neg hc.2.2.1, str_run hq x l h'.2]
    simp only [Option.map_map]
    rfl
theorem step_str {q : Int} (hq : q = 34 ∨ q = 39) (r : List Int) : step nv (q :: r) = (some (match (str q r).1 with | some t => ⟨4, t, 0, false, 0⟩ | none => ⟨5, [], 0, false, 0⟩), (str q r).2) := by
  unfold step
  rw [see_zero, if_neg (by omega), isWhite_no (by omega), if_neg (by decide), if_pos hq]
  rfl
theorem toks_strings {q : Int} (hq : q = 34 ∨ q = 39) {l : List Int} (h : l.all inStr = true) :
    toks nv (q :: l ++ [q, 97]) = [⟨4, l, 0, false, 0⟩, ⟨1, [97], 0, false, 0⟩] ∧ toks nv (q :: l) = [⟨4, l, 0, false, 0⟩] ∧ toks nv (q :: l ++ [10, 97]) = [⟨5, [], 0, false, 0⟩, ⟨9, [], 0, false, 0⟩, ⟨1, [97], 0, false, 0⟩] := by
  have ta : toks nv [97] = [⟨1, [97], 0, false, 0⟩] := (toks_names nv (c := 97) (l := []) (by decide)).1
  refine ⟨?_, ?_, ?_⟩
  · rw [List.cons_append, toks_cons, step_str nv hq, str_run hq _ l h, str_cons, if_pos rfl]
    show _ :: toks nv [97] = _
    rw [ta]
    simp
  · rw [toks_cons, step_str nv hq]
    have := str_run hq [] l h
    rw [List.append_nil] at this
    rw [this]
    simp [str_nil, toks_nil]
  · rw [List.cons_append, toks_cons, step_str nv hq, str_run hq _ l h, str_cons, if_neg (by omega), if_pos rfl]
    show _ :: toks nv [10, 97] = _
    have hw : step nv [10, 97] = (some ⟨9, [], 0, false, 0⟩, [97]) := by
      unfold step
      rw [see_zero, if_neg (by decide), if_pos (by decide)]
      rfl
    rw [toks_cons, hw]
    show _ :: _ :: toks nv [97] = _
    rw [ta]
    rfl

/-! ### one code point alone; white -/
theorem toks_sign {c : Int} (h : 0 < sign c) : toks nv [c] = [⟨sign c, [], 0, false, 0⟩] := by
  have hc : c = 58 ∨ c = 59 ∨ c = 44 ∨ c = 123 ∨ c = 125 ∨ c = 40 ∨ c = 41 ∨ c = 91 ∨ c = 93 := by
    unfold sign at h
    repeat' split at h
    all_goals omega
  have h2 : ∀ k, see [c] (k + 1) = -1 := fun k => by rw [see_succ, see_nil]
  rw [toks_cons, step_plain nv (by omega) (isWhite_no (by omega)) (by omega) (by omega) (.inl (by omega)) (begNum_no (by rw [see_zero]; omega) (by rw [see_zero]; omega) (isDigit_no (by rw [see_zero]; omega)) (by rw [see_zero]; omega)) (.inl (by omega)) (begName_no (by rw [see_zero]; omega) (nameStart_no (by rw [see_zero]; omega)) (by rw [see_zero]; omega)), if_pos h]
  rfl
theorem toks_delim {c : Int} (h1 : 32 < c) (h2 : c < 127) (h3 : c ≠ 34) (h4 : c ≠ 39) (h5 : c ≠ 95) (h6 : ¬ (48 ≤ c ∧ c ≤ 57)) (h7 : ¬ (97 ≤ c ∧ c ≤ 122)) (h8 : ¬ (65 ≤ c ∧ c ≤ 90)) (h9 : sign c = 0) : toks nv [c] = [⟨10, [], 0, false, c⟩] := by
  have hn : begNum [c] = false := by
    unfold begNum unsign
    split
    · rfl
    · rw [see_zero, see_succ, see_nil, isDigit_no (c := c) (by omega)]
      simp [show isDigit (-1) = false from rfl]
  have hb : begName [c] = false := by
    unfold begName
    split
    · rfl
    · rw [see_zero, nameStart_no (c := c) (by omega)]
      simp [escAt, see_succ, see_nil]
  rw [toks_cons, step_plain nv (by rw [see_nil]; omega) (isWhite_no (by omega)) h3 h4 (.inr rfl) hn (.inr rfl) hb, if_neg (by omega)]
  rfl
theorem step_white {c : Int} (r : List Int) (h : isWhite c = true) : step nv (c :: r) = (some ⟨9, [], 0, false, 0⟩, r.dropWhile isWhite) := by
  have hc := isWhite_iff.1 h
  unfold step
  rw [see_zero, if_neg (by omega), if_pos h]
  show (_, (c :: r).dropWhile isWhite) = _
  rw [List.dropWhile_cons, if_pos h]
theorem drop_white (x : List Int) (hx : isWhite (see x 0) = false) : ∀ l : List Int, l.all isWhite = true → (l ++ x).dropWhile isWhite = x
  | [], _ => by
    cases x with
    | nil => rfl
    | cons c r => rw [see_zero] at hx; rw [List.nil_append, List.dropWhile_cons, hx]; rfl
  | c :: l, h => by
    have h' : isWhite c = true ∧ l.all isWhite = true := by simpa using h
    rw [List.cons_append, List.dropWhile_cons, if_pos h'.1, drop_white x hx l h'.2]
theorem toks_white {w : Int} {l : List Int} (h : (w :: l).all isWhite = true) : toks nv (97 :: w :: l ++ [98]) = [⟨1, [97], 0, false, 0⟩, ⟨9, [], 0, false, 0⟩, ⟨1, [98], 0, false, 0⟩] := by
  have h' : isWhite w = true ∧ l.all isWhite = true := by simpa using h
  have hw := isWhite_iff.1 h'.1
  have tb : toks nv [98] = [⟨1, [98], 0, false, 0⟩] := (toks_names nv (c := 98) (l := []) (by decide)).1
  have n1 : name (97 :: (w :: l ++ [98])) = ([97], w :: l ++ [98]) := name_run (x := w :: l ++ [98]) (name_stop (namePt_no (by rw [List.cons_append, see_zero]; omega)) (escAt_no (by rw [List.cons_append, see_zero]; omega))) [97] (by decide)
  rw [List.cons_append, toks_cons, step_start nv _ (by decide), n1]
  rw [if_neg (by rw [List.cons_append, see_zero]; omega)]
  show _ :: toks nv (w :: l ++ [98]) = _
  rw [List.cons_append, toks_cons, step_white nv _ h'.1, drop_white [98] (by decide) l h'.2]
  show _ :: _ :: toks nv [98] = _
  rw [tb]

end Go.Proofs.Ytgfbgfcakblpoaa
