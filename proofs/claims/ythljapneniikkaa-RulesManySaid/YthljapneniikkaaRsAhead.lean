/- What stands ahead of a closing brace, or of a string, is read as it is alone (as TkC's, of other signs). No program in this text. -/
import Derived.Test.YthljapneniikkaaBsH
namespace Go.Proofs.Ythljapneniikkaa.Rm

variable (nv : List Int → Int)

/-! ### ahead of a sign that goes on with nothing -/
/-- A code point that goes on with nothing ahead of it. -/
def Stops (t : Int) : Prop := t = 125 ∨ t = 34
theorem see_ahead (a x : List Int) (t : Int) (p : Int → Bool) (h1 : p (-1) = false) (h2 : p t = false) : p (see (a ++ t :: x) 0) = p (see a 0) := by
  cases a with
  | nil => rw [List.nil_append, see_zero, see_nil, h1, h2]
  | cons c r => rw [List.cons_append, see_zero, see_zero]
theorem see_eq_ahead (a x : List Int) (t k : Int) (h1 : k ≠ -1) (h2 : t ≠ k) : (see (a ++ t :: x) 0 = k) = (see a 0 = k) := by
  cases a with
  | nil => rw [List.nil_append, see_zero, see_nil]; exact propext ⟨fun h => absurd h h2, fun h => absurd h.symm h1⟩
  | cons c r => rw [List.cons_append, see_zero, see_zero]
theorem take_ahead (p : Int → Bool) (x : List Int) (t : Int) (h2 : p t = false) : ∀ a : List Int, (a ++ t :: x).takeWhile p = a.takeWhile p ∧ (a ++ t :: x).dropWhile p = a.dropWhile p ++ t :: x
  | [] => by
    rw [List.nil_append, List.takeWhile_cons, List.dropWhile_cons, h2]
    exact ⟨rfl, rfl⟩
  | c :: r => by
    obtain ⟨i1, i2⟩ := take_ahead p x t h2 r
    rw [List.cons_append, List.takeWhile_cons, List.dropWhile_cons, List.takeWhile_cons, List.dropWhile_cons]
    cases p c
    · exact ⟨rfl, rfl⟩
    · exact ⟨by rw [if_pos rfl, if_pos rfl, i1], by rw [if_pos rfl, if_pos rfl, i2]⟩
theorem escAt_plain {a : List Int} (h : Plainly a) : escAt a = false := by
  cases a with
  | nil => rfl
  | cons c r => exact escAt_no (by rw [see_zero]; exact (h c (List.mem_cons_self ..)).2.2.2)
theorem escAt_ahead {a : List Int} (h : Plainly a) {t : Int} (ht : Stops t) (x : List Int) : escAt (a ++ t :: x) = false := by
  cases a with
  | nil => exact escAt_no (by rw [List.nil_append, see_zero]; unfold Stops at ht; omega)
  | cons c r => exact escAt_no (by rw [List.cons_append, see_zero]; exact (h c (List.mem_cons_self ..)).2.2.2)
theorem stops_no {t : Int} (ht : Stops t) : isWhite t = false ∧ isDigit t = false ∧ nameStart t = false ∧ namePt t = false := by
  rcases ht with rfl | rfl <;> decide
theorem name_ahead {t : Int} (ht : Stops t) (x : List Int) : ∀ a : List Int, Plainly a → name (a ++ t :: x) = ((name a).1, (name a).2 ++ t :: x)
  | [], _ => by
    rw [List.nil_append, name_cons, (stops_no ht).2.2.2, if_neg (by decide), escAt_no (by rw [see_zero]; unfold Stops at ht; omega), if_neg (by decide)]
    rfl
  | c :: r, h => by
    have i := name_ahead ht x r h.cons
    have e1 : escAt (c :: r) = false := escAt_plain h
    have e2 : escAt (c :: (r ++ t :: x)) = false := escAt_ahead h ht x
    rw [List.cons_append, name_cons, name_cons, e1, e2, i]
    split <;> rfl
theorem begName_ahead {t : Int} (ht : Stops t) (x a : List Int) (h : Plainly a) : begName (a ++ t :: x) = begName a := by
  have hs := (stops_no ht).2.2.1
  have e1 := escAt_plain h
  have e2 := escAt_ahead h ht x
  cases a with
  | nil =>
    unfold begName
    rw [List.nil_append, see_zero, hs, if_neg (by unfold Stops at ht; simp; omega), escAt_no (by rw [see_zero]; unfold Stops at ht; omega)]
    rfl
  | cons c r =>
    unfold begName
    rw [List.cons_append] at e2 ⊢
    rw [see_zero, see_zero, e1, e2, see_succ, see_succ, show (c :: (r ++ t :: x)).tail = r ++ t :: x from rfl, show (c :: r).tail = r from rfl, escAt_plain h.cons, escAt_ahead h.cons ht x,
      see_ahead r x t nameStart (by decide) hs, see_ahead r x t (fun c => c == 45) (by decide) (by unfold Stops at ht; simp; omega)]
theorem unsign_ahead {t : Int} (ht : Stops t) (x a : List Int) : unsign (a ++ t :: x) = unsign a ++ t :: x := by
  cases a with
  | nil =>
    rw [List.nil_append, unsign_no (by rw [see_zero]; unfold Stops at ht; omega) (by rw [see_zero]; unfold Stops at ht; omega)]
    rfl
  | cons c r =>
    unfold unsign
    rw [List.cons_append, see_zero, see_zero]
    split <;> rfl
theorem sgn_ahead {t : Int} (ht : Stops t) (x a : List Int) : sgn (a ++ t :: x) = sgn a := by
  cases a with
  | nil =>
    unfold sgn
    rw [List.nil_append, see_zero, if_neg (by unfold Stops at ht; simp; omega)]
    rfl
  | cons c r =>
    unfold sgn
    rw [List.cons_append, see_zero, see_zero]
theorem pointed_ahead {t : Int} (ht : Stops t) (x a : List Int) : pointed (a ++ t :: x) = pointed a := by
  cases a with
  | nil =>
    unfold pointed
    rw [List.nil_append, see_zero, show (t == 46) = false by unfold Stops at ht; simp; omega]
    rfl
  | cons c r =>
    unfold pointed
    rw [List.cons_append, see_zero, see_zero, see_succ, see_succ, see_ahead r x t isDigit (by decide) (stops_no ht).2.1]
theorem begNum_eq (l : List Int) : begNum l = (isDigit (see (unsign l) 0) || pointed (unsign l)) := rfl
theorem begNum_ahead {t : Int} (ht : Stops t) (x a : List Int) : begNum (a ++ t :: x) = begNum a := by
  rw [begNum_eq, begNum_eq, unsign_ahead ht, pointed_ahead ht, see_ahead _ x t isDigit (by decide) (stops_no ht).2.1]
theorem tail_append {a : List Int} (h : a ≠ []) (y : List Int) : (a ++ y).tail = a.tail ++ y := by
  cases a with
  | nil => exact absurd rfl h
  | cons c r => rfl
theorem pointed_ne {a : List Int} (h : pointed a = true) : a ≠ [] := fun e => by rw [e] at h; exact absurd h (by decide)
theorem numText_ahead {t : Int} (ht : Stops t) (x a : List Int) : numText (a ++ t :: x) = ((numText a).1, (numText a).2.1 ++ t :: x, (numText a).2.2) := by
  have hd := (stops_no ht).2.1
  obtain ⟨t1, t2⟩ := take_ahead isDigit x t hd (unsign a)
  unfold numText
  simp only
  rw [unsign_ahead ht, t1, t2, pointed_ahead ht, sgn_ahead ht]
  split
  · rename_i hp
    have hne := pointed_ne hp
    rw [tail_append hne]
    obtain ⟨t3, t4⟩ := take_ahead isDigit x t hd ((unsign a).dropWhile isDigit).tail
    rw [t3, t4]
  · rfl
theorem plainly_of_suffix {a b : List Int} (h : Plainly a) (hs : b <:+ a) : Plainly b := fun c hc => h c (hs.subset hc)
theorem suffix_tail (l : List Int) : l.tail <:+ l := by
  cases l with
  | nil => exact List.suffix_refl _
  | cons c r => exact List.suffix_cons c r
theorem name_suffix : ∀ a : List Int, Plainly a → (name a).2 <:+ a
  | [], _ => List.suffix_refl _
  | c :: r, h => by
    rw [name_cons, escAt_plain h]
    split
    · exact (name_suffix r h.cons).trans (List.suffix_cons c r)
    · exact List.suffix_refl _
theorem unsign_suffix (a : List Int) : unsign a <:+ a := by
  unfold unsign
  split
  · exact suffix_tail a
  · exact List.suffix_refl _
theorem numText_suffix (a : List Int) : (numText a).2.1 <:+ a := by
  unfold numText
  simp only
  split
  · exact ((List.dropWhile_suffix _).trans (suffix_tail _)).trans ((List.dropWhile_suffix _).trans (unsign_suffix a))
  · exact (List.dropWhile_suffix _).trans (unsign_suffix a)
theorem numeric_suffix {a : List Int} (h : Plainly a) : (numeric nv a).2 <:+ a := by
  have hs := numText_suffix a
  unfold numeric
  simp only
  split
  · exact (name_suffix _ (plainly_of_suffix h hs)).trans hs
  · split
    · exact (suffix_tail _).trans hs
    · exact hs
theorem numeric_ahead {t : Int} (ht : Stops t) (x : List Int) {a : List Int} (h : Plainly a) : numeric nv (a ++ t :: x) = ((numeric nv a).1, (numeric nv a).2 ++ t :: x) := by
  have hp := plainly_of_suffix h (numText_suffix a)
  unfold numeric
  simp only
  rw [numText_ahead ht]
  simp only
  rw [begName_ahead ht x _ hp, name_ahead ht x _ hp]
  simp only [see_eq_ahead (numText a).2.1 x t 37 (by decide) (by unfold Stops at ht; omega)]
  split
  · rfl
  · split
    · rename_i h37
      have hne : (numText a).2.1 ≠ [] := fun e => by rw [e] at h37; revert h37; decide
      rw [tail_append hne]
    · rfl
theorem step_ahead {t : Int} (ht : Stops t) (x : List Int) {c : Int} {r : List Int} (h : Plainly (c :: r)) :
    step nv (c :: r ++ t :: x) = ((step nv (c :: r)).1, (step nv (c :: r)).2 ++ t :: x) ∧ (step nv (c :: r)).2 <:+ c :: r ∧ ∃ k, (step nv (c :: r)).1 = some k := by
  obtain ⟨h1, h2, h3, h4⟩ := h c (List.mem_cons_self ..)
  obtain ⟨s1, s2, s3, s4⟩ := stops_no ht
  obtain ⟨d1, d2⟩ := take_ahead isWhite x t s1 (c :: r)
  have hr := h.cons
  have et : (c :: r ++ t :: x).tail = r ++ t :: x := rfl
  have et' : (c :: r).tail = r := rfl
  have e0 : see (c :: r ++ t :: x) 0 = c := rfl
  have e1 : see (c :: r ++ t :: x) 1 = see (r ++ t :: x) 0 := see_succ _ _ _
  have e1' : see (c :: r) 1 = see r 0 := see_succ _ _ _
  have n1 := name_ahead ht x _ h
  have n2 := name_ahead ht x _ hr
  unfold step
  rw [e0, see_zero, e1, e1', et, et', see_ahead r x t namePt (by decide) s4, escAt_plain hr, escAt_ahead hr ht x, begNum_ahead ht, begName_ahead ht x _ h, begName_ahead ht x _ hr, n1, n2, numeric_ahead nv ht x h, d2]
  rw [if_neg (show ¬ (c = 47 ∧ see (r ++ t :: x) 0 = 42) from fun e => h3 e.1), if_neg (show ¬ (c = 47 ∧ see r 0 = 42) from fun e => h3 e.1), if_neg (show ¬ (c = 34 ∨ c = 39) by omega), if_neg (show ¬ (c = 34 ∨ c = 39) by omega)]
  split
  · exact ⟨rfl, List.dropWhile_suffix _, _, rfl⟩
  · split
    · exact ⟨rfl, (name_suffix r hr).trans (List.suffix_cons c r), _, rfl⟩
    · split
      · exact ⟨rfl, numeric_suffix nv h, _, rfl⟩
      · split
        · exact ⟨rfl, (name_suffix r hr).trans (List.suffix_cons c r), _, rfl⟩
        · split
          · simp only
            simp only [see_eq_ahead (name (c :: r)).2 x t 40 (by decide) (by unfold Stops at ht; omega)]
            split
            · rename_i h40
              have hne : (name (c :: r)).2 ≠ [] := fun e => by rw [e] at h40; revert h40; decide
              rw [tail_append hne]
              exact ⟨rfl, (suffix_tail _).trans (name_suffix _ h), _, rfl⟩
            · exact ⟨rfl, name_suffix _ h, _, rfl⟩
          · split
            · exact ⟨rfl, List.suffix_cons c r, _, rfl⟩
            · exact ⟨rfl, List.suffix_cons c r, _, rfl⟩
/-- WHAT STANDS AHEAD OF SUCH A SIGN IS READ AS IT IS ALONE. -/
theorem toks_ahead {t : Int} (ht : Stops t) (x : List Int) : ∀ (n : Nat) (a : List Int), a.length ≤ n → Plainly a → toks nv (a ++ t :: x) = toks nv a ++ toks nv (t :: x)
  | _, [], _, _ => rfl
  | 0, c :: r, hl, _ => by simp at hl
  | n + 1, c :: r, hl, h => by
    obtain ⟨e, hs, _⟩ := step_ahead nv ht x h
    have hlen := step_len nv c r
    rw [List.length_cons] at hl
    have i := toks_ahead ht x n (step nv (c :: r)).2 (by omega) (plainly_of_suffix h hs)
    rw [List.cons_append] at e ⊢
    rw [toks_cons nv c (r ++ t :: x), e, toks_cons nv c r, i, List.append_assoc]


theorem toks_brace (x : List Int) : toks nv (125 :: x) = ⟨15, [], 0, false, 0⟩ :: toks nv x := by
  refine toks_step nv ?_ (by simp)
  rw [step_plain nv (by omega) (by decide) (by decide) (by decide) (.inl (by decide)) (begNum_no (by rw [see_zero]; decide) (by rw [see_zero]; decide) (by rw [see_zero]; decide) (by rw [see_zero]; decide)) (.inl (by decide)) (begName_no (by rw [see_zero]; decide) (by rw [see_zero]; decide) (by rw [see_zero]; decide)), if_pos (by decide)]
  rfl
/-- The string of one brace. -/
theorem toks_str (x : List Int) : toks nv (34 :: 123 :: 34 :: x) = ⟨4, [123], 0, false, 0⟩ :: toks nv x := by
  refine toks_step nv ?_ (by simp)
  have e : str 34 (123 :: 34 :: x) = (some [123], x) := by
    rw [str_cons, if_neg (by decide), if_neg (by decide), if_neg (by decide), str_cons, if_pos rfl]
    rfl
  unfold step
  rw [see_zero, if_neg (by omega), if_neg (by decide), if_pos (.inl rfl), show (34 :: 123 :: 34 :: x : List Int).tail = 123 :: 34 :: x from rfl, e]

end Go.Proofs.Ythljapneniikkaa.Rm
