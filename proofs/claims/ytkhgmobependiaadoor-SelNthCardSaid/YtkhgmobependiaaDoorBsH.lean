/- Plain facts on tokens over lists: what stands ahead of a sign that goes on with nothing is read as it is alone; comments; what each kind of token has. -/
import Derived.Test.YtkhgmobependiaaDoorBsC
namespace Go.Proofs.YtkhgmobependiaaDoor

variable (nv : List Int → Int)

/-! ### ahead of a sign that goes on with nothing -/
/-- A code point that goes on with nothing ahead of it. -/
def Stops (t : Int) : Prop := t = 47 ∨ t = 59
/-- What leaves nothing open. -/
def Plainly (a : List Int) : Prop := ∀ c ∈ a, c ≠ 34 ∧ c ≠ 39 ∧ c ≠ 47 ∧ c ≠ 92
theorem Plainly.tail {a : List Int} (h : Plainly a) : Plainly a.tail := fun c hc => h c (List.mem_of_mem_tail hc)
theorem Plainly.cons {c : Int} {a : List Int} (h : Plainly (c :: a)) : Plainly a := fun x hx => h x (List.mem_cons_of_mem _ hx)
theorem see_ahead (a x : List Int) (t : Int) (p : Int → Bool) (h1 : p (-1) = false) (h2 : p t = false) : p (see (a ++ t :: x) 0) = p (see a 0) := by
  cases a with
  | nil => rw [List.nil_append, see_zero, see_nil, h1, h2]
  | cons c r => rw [List.cons_append, see_zero, see_zero]
theorem see_eq_ahead (a x : List Int) (t k : Int) (h1 : k ≠ -1) (h2 : t ≠ k) : (see (a ++ t :: x) 0 = k) = (see a 0 = k) := by
  cases a with
  | nil => rw [List.nil_append, see_zero, see_nil]; exact propext ⟨fun h => absurd h h2, fun h => absurd h.symm h1⟩
  | cons c r => rw [List.cons_append, see_zero, see_zero]
theorem take_ahead (p : Int → Bool) (x : List Int) (t : Int) (h2 : p t = false) : ∀ a : List Int, (a ++ t :: x).takeWhile p = a.takeWhile p ∧ (a ++ t :: x).dropWhile p = a.dropWhile p ++ t :: x
  | [] => by
    rw [List.nil_append, List.takeWhile_cons, List.dropWhile_cons, h2]
    exact ⟨rfl, rfl⟩
  | c :: r => by
    obtain ⟨i1, i2⟩ := take_ahead p x t h2 r
    rw [List.cons_append, List.takeWhile_cons, List.dropWhile_cons, List.takeWhile_cons, List.dropWhile_cons]
    cases p c
    · exact ⟨rfl, rfl⟩
    · exact ⟨by rw [if_pos rfl, if_pos rfl, i1], by rw [if_pos rfl, if_pos rfl, i2]⟩
theorem escAt_plain {a : List Int} (h : Plainly a) : escAt a = false := by
  cases a with
  | nil => rfl
  | cons c r => exact escAt_no (by rw [see_zero]; exact (h c (List.mem_cons_self ..)).2.2.2)
theorem escAt_ahead {a : List Int} (h : Plainly a) {t : Int} (ht : Stops t) (x : List Int) : escAt (a ++ t :: x) = false := by
  cases a with
  | nil => exact escAt_no (by rw [List.nil_append, see_zero]; unfold Stops at ht; omega)
  | cons c r => exact escAt_no (by rw [List.cons_append, see_zero]; exact (h c (List.mem_cons_self ..)).2.2.2)
theorem stops_no {t : Int} (ht : Stops t) : isWhite t = false ∧ isDigit t = false ∧ nameStart t = false ∧ namePt t = false := by
  rcases ht with rfl | rfl <;> decide
theorem name_ahead {t : Int} (ht : Stops t) (x : List Int) : ∀ a : List Int, Plainly a → name (a ++ t :: x) = ((name a).1, (name a).2 ++ t :: x)
  | [], _ => by
    rw [List.nil_append, name_cons, (stops_no ht).2.2.2, if_neg (by decide), escAt_no (by rw [see_zero]; unfold Stops at ht; omega), if_neg (by decide)]
    rfl
  | c :: r, h => by
    have i := name_ahead ht x r h.cons
    have e1 : escAt (c :: r) = false := escAt_plain h
    have e2 : escAt (c :: (r ++ t :: x)) = false := escAt_ahead h ht x
    rw [List.cons_append, name_cons, name_cons, e1, e2, i]
    split <;> rfl
theorem begName_ahead {t : Int} (ht : Stops t) (x a : List Int) (h : Plainly a) : begName (a ++ t :: x) = begName a := by
  have hs := (stops_no ht).2.2.1
  have e1 := escAt_plain h
  have e2 := escAt_ahead h ht x
  cases a with
  | nil =>
    unfold begName
    rw [List.nil_append, see_zero, hs, if_neg (by unfold Stops at ht; simp; omega), escAt_no (by rw [see_zero]; unfold Stops at ht; omega)]
    rfl
  | cons c r =>
    unfold begName
    rw [List.cons_append] at e2 ⊢
    rw [see_zero, see_zero, e1, e2, see_succ, see_succ, show (c :: (r ++ t :: x)).tail = r ++ t :: x from rfl, show (c :: r).tail = r from rfl, escAt_plain h.cons, escAt_ahead h.cons ht x,
      see_ahead r x t nameStart (by decide) hs, see_ahead r x t (fun c => c == 45) (by decide) (by unfold Stops at ht; simp; omega)]
theorem unsign_ahead {t : Int} (ht : Stops t) (x a : List Int) : unsign (a ++ t :: x) = unsign a ++ t :: x := by
  cases a with
  | nil =>
    rw [List.nil_append, unsign_no (by rw [see_zero]; unfold Stops at ht; omega) (by rw [see_zero]; unfold Stops at ht; omega)]
    rfl
  | cons c r =>
    unfold unsign
    rw [List.cons_append, see_zero, see_zero]
    split <;> rfl
theorem sgn_ahead {t : Int} (ht : Stops t) (x a : List Int) : sgn (a ++ t :: x) = sgn a := by
  cases a with
  | nil =>
    unfold sgn
    rw [List.nil_append, see_zero, if_neg (by unfold Stops at ht; simp; omega)]
    rfl
  | cons c r =>
    unfold sgn
    rw [List.cons_append, see_zero, see_zero]
theorem pointed_ahead {t : Int} (ht : Stops t) (x a : List Int) : pointed (a ++ t :: x) = pointed a := by
  cases a with
  | nil =>
    unfold pointed
    rw [List.nil_append, see_zero, show (t == 46) = false by unfold Stops at ht; simp; omega]
    rfl
  | cons c r =>
    unfold pointed
    rw [List.cons_append, see_zero, see_zero, see_succ, see_succ, see_ahead r x t isDigit (by decide) (stops_no ht).2.1]
theorem begNum_eq (l : List Int) : begNum l = (isDigit (see (unsign l) 0) || pointed (unsign l)) := rfl
theorem begNum_ahead {t : Int} (ht : Stops t) (x a : List Int) : begNum (a ++ t :: x) = begNum a := by
  rw [begNum_eq, begNum_eq, unsign_ahead ht, pointed_ahead ht, see_ahead _ x t isDigit (by decide) (stops_no ht).2.1]
theorem tail_append {a : List Int} (h : a ≠ []) (y : List Int) : (a ++ y).tail = a.tail ++ y := by
  cases a with
  | nil => exact absurd rfl h
  | cons c r => rfl
theorem pointed_ne {a : List Int} (h : pointed a = true) : a ≠ [] := fun e => by rw [e] at h; exact absurd h (by decide)
theorem numText_ahead {t : Int} (ht : Stops t) (x a : List Int) : numText (a ++ t :: x) = ((numText a).1, (numText a).2.1 ++ t :: x, (numText a).2.2) := by
  have hd := (stops_no ht).2.1
  obtain ⟨t1, t2⟩ := take_ahead isDigit x t hd (unsign a)
  unfold numText
  simp only
  rw [unsign_ahead ht, t1, t2, pointed_ahead ht, sgn_ahead ht]
  split
  · rename_i hp
    have hne := pointed_ne hp
    rw [tail_append hne]
    obtain ⟨t3, t4⟩ := take_ahead isDigit x t hd ((unsign a).dropWhile isDigit).tail
    rw [t3, t4]
  · rfl
theorem plainly_of_suffix {a b : List Int} (h : Plainly a) (hs : b <:+ a) : Plainly b := fun c hc => h c (hs.subset hc)
theorem suffix_tail (l : List Int) : l.tail <:+ l := by
  cases l with
  | nil => exact List.suffix_refl _
  | cons c r => exact List.suffix_cons c r
theorem name_suffix : ∀ a : List Int, Plainly a → (name a).2 <:+ a
  | [], _ => List.suffix_refl _
  | c :: r, h => by
    rw [name_cons, escAt_plain h]
    split
    · exact (name_suffix r h.cons).trans (List.suffix_cons c r)
    · exact List.suffix_refl _
theorem unsign_suffix (a : List Int) : unsign a <:+ a := by
  unfold unsign
  split
  · exact suffix_tail a
  · exact List.suffix_refl _
theorem numText_suffix (a : List Int) : (numText a).2.1 <:+ a := by
  unfold numText
  simp only
  split
  · exact ((List.dropWhile_suffix _).trans (suffix_tail _)).trans ((List.dropWhile_suffix _).trans (unsign_suffix a))
  · exact (List.dropWhile_suffix _).trans (unsign_suffix a)
theorem numeric_suffix {a : List Int} (h : Plainly a) : (numeric nv a).2 <:+ a := by
  have hs := numText_suffix a
  unfold numeric
  simp only
  split
  · exact (name_suffix _ (plainly_of_suffix h hs)).trans hs
  · split
    · exact (suffix_tail _).trans hs
    · exact hs
theorem numeric_ahead {t : Int} (ht : Stops t) (x : List Int) {a : List Int} (h : Plainly a) : numeric nv (a ++ t :: x) = ((numeric nv a).1, (numeric nv a).2 ++ t :: x) := by
  have hp := plainly_of_suffix h (numText_suffix a)
  unfold numeric
  simp only
  rw [numText_ahead ht]
  simp only
  rw [begName_ahead ht x _ hp, name_ahead ht x _ hp]
  simp only [see_eq_ahead (numText a).2.1 x t 37 (by decide) (by unfold Stops at ht; omega)]
  split
  · rfl
  · split
    · rename_i h37
      have hne : (numText a).2.1 ≠ [] := fun e => by rw [e] at h37; revert h37; decide
      rw [tail_append hne]
    · rfl
theorem step_ahead {t : Int} (ht : Stops t) (x : List Int) {c : Int} {r : List Int} (h : Plainly (c :: r)) :
    step nv (c :: r ++ t :: x) = ((step nv (c :: r)).1, (step nv (c :: r)).2 ++ t :: x) ∧ (step nv (c :: r)).2 <:+ c :: r ∧ ∃ k, (step nv (c :: r)).1 = some k := by
  obtain ⟨h1, h2, h3, h4⟩ := h c (List.mem_cons_self ..)
  obtain ⟨s1, s2, s3, s4⟩ := stops_no ht
  obtain ⟨d1, d2⟩ := take_ahead isWhite x t s1 (c :: r)
  have hr := h.cons
  have et : (c :: r ++ t :: x).tail = r ++ t :: x := rfl
  have et' : (c :: r).tail = r := rfl
  have e0 : see (c :: r ++ t :: x) 0 = c := rfl
  have e1 : see (c :: r ++ t :: x) 1 = see (r ++ t :: x) 0 := see_succ _ _ _
  have e1' : see (c :: r) 1 = see r 0 := see_succ _ _ _
  have n1 := name_ahead ht x _ h
  have n2 := name_ahead ht x _ hr
  unfold step
  rw [e0, see_zero, e1, e1', et, et', see_ahead r x t namePt (by decide) s4, escAt_plain hr, escAt_ahead hr ht x, begNum_ahead ht, begName_ahead ht x _ h, begName_ahead ht x _ hr, n1, n2, numeric_ahead nv ht x h, d2]
  rw [if_neg (show ¬ (c = 47 ∧ see (r ++ t :: x) 0 = 42) from fun e => h3 e.1), if_neg (show ¬ (c = 47 ∧ see r 0 = 42) from fun e => h3 e.1), if_neg (show ¬ (c = 34 ∨ c = 39) by omega), if_neg (show ¬ (c = 34 ∨ c = 39) by omega)]
  split
  · exact ⟨rfl, List.dropWhile_suffix _, _, rfl⟩
  · split
    · exact ⟨rfl, (name_suffix r hr).trans (List.suffix_cons c r), _, rfl⟩
    · split
      · exact ⟨rfl, numeric_suffix nv h, _, rfl⟩
      · split
        · exact ⟨rfl, (name_suffix r hr).trans (List.suffix_cons c r), _, rfl⟩
        · split
          · simp only
            simp only [see_eq_ahead (name (c :: r)).2 x t 40 (by decide) (by unfold Stops at ht; omega)]
            split
            · rename_i h40
              have hne : (name (c :: r)).2 ≠ [] := fun e => by rw [e] at h40; revert h40; decide
              rw [tail_append hne]
              exact ⟨rfl, (suffix_tail _).trans (name_suffix _ h), _, rfl⟩
            · exact ⟨rfl, name_suffix _ h, _, rfl⟩
          · split
            · exact ⟨rfl, List.suffix_cons c r, _, rfl⟩
            · exact ⟨rfl, List.suffix_cons c r, _, rfl⟩
/-- WHAT STANDS AHEAD OF SUCH A SIGN IS READ AS IT IS ALONE. -/
theorem toks_ahead {t : Int} (ht : Stops t) (x : List Int) : ∀ (n : Nat) (a : List Int), a.length ≤ n → Plainly a → toks nv (a ++ t :: x) = toks nv a ++ toks nv (t :: x)
  | _, [], _, _ => rfl
  | 0, c :: r, hl, _ => by simp at hl
  | n + 1, c :: r, hl, h => by
    obtain ⟨e, hs, _⟩ := step_ahead nv ht x h
    have hlen := step_len nv c r
    rw [List.length_cons] at hl
    have i := toks_ahead ht x n (step nv (c :: r)).2 (by omega) (plainly_of_suffix h hs)
    rw [List.cons_append] at e ⊢
    rw [toks_cons nv c (r ++ t :: x), e, toks_cons nv c r, i, List.append_assoc]

/-! ### comments -/
theorem toks_comment (r : List Int) : toks nv (47 :: 42 :: r) = toks nv (skipC r) := by
  have e : step nv (47 :: 42 :: r) = (none, skipC r) := by
    unfold step
    rw [if_pos ⟨rfl, rfl⟩]
    rfl
  rw [toks_cons, e]
  rfl
theorem skipC_open : ∀ b : List Int, (∀ c ∈ b, c ≠ 42) → skipC b = []
  | [], _ => rfl
  | c :: b, h => by
    rw [skipC, if_neg (fun e => h c (List.mem_cons_self ..) e.1)]
    exact skipC_open b fun x hx => h x (List.mem_cons_of_mem _ hx)
theorem skipC_shut (x : List Int) : ∀ b : List Int, (∀ c ∈ b, c ≠ 42) → skipC (b ++ 42 :: 47 :: x) = x
  | [], _ => by rw [List.nil_append, skipC, if_pos ⟨rfl, rfl⟩]; rfl
  | c :: b, h => by
    rw [List.cons_append, skipC, if_neg (fun e => h c (List.mem_cons_self ..) e.1)]
    exact skipC_shut x b fun y hy => h y (List.mem_cons_of_mem _ hy)
theorem toks_space : toks nv [32] = [⟨9, [], 0, false, 0⟩] := by
  rw [toks_cons, step_white nv _ (by decide)]
  rfl
theorem toks_comments {a b : List Int} (ha : Plainly a) (hb : ∀ c ∈ b, c ≠ 42) :
    toks nv (47 :: 42 :: b ++ [42, 47]) = [] ∧ toks nv (a ++ 47 :: 42 :: b) = toks nv a ∧ toks nv (a ++ 47 :: 42 :: (b ++ [42, 47, 32])) = toks nv a ++ [⟨9, [], 0, false, 0⟩] := by
  refine ⟨?_, ?_, ?_⟩
  · rw [List.cons_append, List.cons_append, toks_comment, skipC_shut [] b hb, toks_nil]
  · rw [toks_ahead nv (.inl rfl) _ _ a (Nat.le_refl _) ha, toks_comment, skipC_open b hb, toks_nil, List.append_nil]
  · rw [toks_ahead nv (.inl rfl) _ _ a (Nat.le_refl _) ha, toks_comment, skipC_shut [32] b hb, toks_space]
/-! ### parts -/
theorem toks_semi (x : List Int) : toks nv (59 :: x) = ⟨12, [], 0, false, 0⟩ :: toks nv x := by
  refine toks_step nv ?_ (by simp)
  rw [step_plain nv (by omega) (by decide) (by decide) (by decide) (.inl (by decide)) (begNum_no (by rw [see_zero]; decide) (by rw [see_zero]; decide) (by rw [see_zero]; decide) (by rw [see_zero]; decide)) (.inl (by decide)) (begName_no (by rw [see_zero]; decide) (by rw [see_zero]; decide) (by rw [see_zero]; decide)), if_pos (by decide)]
  rfl
theorem toks_parts {a b : List Int} (ha : Plainly a) (hb : isWhite (see b 0) = false) : toks nv (a ++ 59 :: 32 :: b) = toks nv (a ++ [59]) ++ ⟨9, [], 0, false, 0⟩ :: toks nv b := by
  rw [toks_ahead nv (.inr rfl) _ _ a (Nat.le_refl _) ha, toks_ahead nv (.inr rfl) [] _ a (Nat.le_refl _) ha, toks_semi, toks_semi, toks_nil, toks_step nv (step_white nv b (by decide)) (by simp), List.append_assoc]
  have hd := drop_white b hb [] rfl
  rw [List.nil_append] at hd
  rw [hd]
  rfl

/-! ### what each kind has -/
def hasText (k : Int) : Bool := k == 1 || k == 2 || k == 3 || k == 4 || k == 8 || k == 20
def hasNum (k : Int) : Bool := k == 6 || k == 7 || k == 8
/-- What a token of its kind has, and has not. -/
def Kindly (x : Tk) : Prop := 1 ≤ x.kind ∧ x.kind ≤ 20 ∧ (hasText x.kind = false → x.text = []) ∧ (hasNum x.kind = false → x.n = 0) ∧ (x.kind ≠ 6 → x.whole = false) ∧ (x.kind ≠ 10 → x.c = 0)
  ∧ (hasText x.kind = true → x.kind ≠ 4 → x.text ≠ []) ∧ x.n ≤ 2147483647 ∧ -2147483647 ≤ x.n
theorem name_ne {l : List Int} (h : (namePt (see l 0) || escAt l) = true) : (name l).1 ≠ [] := by
  cases l with
  | nil => exact absurd h (by decide)
  | cons c r =>
    rw [see_zero, Bool.or_eq_true] at h
    rw [name_cons]
    split
    · simp
    · rename_i hn
      rw [if_pos (h.resolve_left hn)]
      simp
theorem begName_pt {l : List Int} (h : begName l = true) : (namePt (see l 0) || escAt l) = true := by
  unfold begName at h
  split at h
  · rename_i hm
    rw [show see l 0 = 45 by simpa using hm]
    rfl
  · rw [Bool.or_eq_true] at h ⊢
    rcases h with h | h
    · exact .inl (start_pt h)
    · exact .inr h
theorem numeric_kindly (hn : ∀ t, nv t ≤ 2147483647 ∧ -2147483647 ≤ nv t) (l : List Int) : Kindly (numeric nv l).1 := by
  have h := hn (numText l).1
  unfold numeric
  simp only
  split
  · rename_i hb
    exact ⟨by simp, by simp, by simp [hasText], by simp [hasNum], by simp, by simp, fun _ _ => name_ne (begName_pt hb), h.1, h.2⟩
  · split
    · exact ⟨by simp, by simp, by simp, by simp [hasNum], by simp, by simp, by simp [hasText], h.1, h.2⟩
    · exact ⟨by simp, by simp, by simp, by simp [hasNum], by simp, by simp, by simp [hasText], h.1, h.2⟩
theorem sign_le (c : Int) : sign c = 0 ∨ (11 ≤ sign c ∧ sign c ≤ 19) := by
  unfold sign
  repeat' split
  all_goals simp
theorem kindly_sign {k : Int} (h1 : 11 ≤ k) (h2 : k ≤ 19) : Kindly ⟨k, [], 0, false, 0⟩ := by
  refine ⟨by simp only; omega, by simp only; omega, by simp, by simp, by simp, by simp, ?_, by simp, by simp⟩
  simp only [hasText, Bool.or_eq_true, beq_iff_eq]
  omega
theorem step_kindly (hn : ∀ t, nv t ≤ 2147483647 ∧ -2147483647 ≤ nv t) (l : List Int) : ∀ k, (step nv l).1 = some k → Kindly k := by
  intro k
  unfold step
  split
  · intro h; cases h
  · split
    · rintro ⟨⟩
      exact ⟨by simp, by simp, by simp, by simp, by simp, by simp, by simp [hasText], by simp, by simp⟩
    · split
      · rintro ⟨⟩
        cases (str (see l 0) l.tail).1 with
        | none => exact ⟨by simp, by simp, by simp, by simp, by simp, by simp, by simp [hasText], by simp, by simp⟩
        | some t => exact ⟨by simp, by simp, by simp [hasText], by simp, by simp, by simp, by simp, by simp, by simp⟩
      · split
        · rename_i hb
          have hb' : (namePt (see l.tail 0) || escAt l.tail) = true := by
            have : see l 1 = see l.tail 0 := by cases l <;> simp [see]
            rw [← this]
            exact hb.2
          rintro ⟨⟩
          exact ⟨by simp, by simp, by simp [hasText], by simp, by simp, by simp, fun _ _ => name_ne hb', by simp, by simp⟩
        · split
          · rintro ⟨⟩
            exact numeric_kindly nv hn l
          · split
            · rename_i hb
              rintro ⟨⟩
              exact ⟨by simp, by simp, by simp [hasText], by simp, by simp, by simp, fun _ _ => name_ne (begName_pt hb.2), by simp, by simp⟩
            · split
              · rename_i hb
                split
                · rintro ⟨⟩
                  exact ⟨by simp, by simp, by simp [hasText], by simp, by simp, by simp, fun _ _ => name_ne (begName_pt hb), by simp, by simp⟩
                · rintro ⟨⟩
                  exact ⟨by simp, by simp, by simp [hasText], by simp, by simp, by simp, fun _ _ => name_ne (begName_pt hb), by simp, by simp⟩
              · split
                · rename_i hb
                  rintro ⟨⟩
                  rcases sign_le (see l 0) with h | ⟨h1, h2⟩
                  · omega
                  · exact kindly_sign h1 h2
                · rintro ⟨⟩
                  exact ⟨by simp, by simp, by simp, by simp, by simp, by simp, by simp [hasText], by simp, by simp⟩
theorem toks_kindly (hn : ∀ t, nv t ≤ 2147483647 ∧ -2147483647 ≤ nv t) : ∀ (n : Nat) (l : List Int), l.length ≤ n → ∀ k ∈ toks nv l, Kindly k
  | _, [], _ => by simp [toks_nil]
  | 0, c :: r, hl => by simp at hl
  | n + 1, c :: r, hl => by
    have hlen := step_len nv c r
    rw [List.length_cons] at hl
    intro k hk
    rw [toks_cons, List.mem_append] at hk
    rcases hk with hk | hk
    · exact step_kindly nv hn (c :: r) k (by simpa using hk)
    · exact toks_kindly hn n _ (by omega) k hk
/-! ### white beside white -/
/-- Does a comment's beginning stand anywhere? -/
def noComment (l : List Int) : Prop := ∀ p q : List Int, l ≠ p ++ 47 :: 42 :: q
theorem noComment.suffix {a b : List Int} (h : noComment a) (hs : b <:+ a) : noComment b := by
  obtain ⟨t, rfl⟩ := hs
  rintro p q rfl
  exact h (t ++ p) q (by simp)
theorem escd_suffix (c : Int) (r : List Int) : (escd (c :: r)).2 <:+ r := by
  have hex : ∀ (k : Nat) (n : Int) (l : List Int), (hexRun k n l).2 <:+ l := by
    intro k
    induction k with
    | zero => intro n l; exact List.suffix_refl _
    | succ k ih =>
      intro n l
      cases l with
      | nil => exact List.suffix_refl _
      | cons c r =>
        unfold hexRun
        split
        · exact (ih _ r).trans (List.suffix_cons c r)
        · exact List.suffix_refl _
  unfold escd
  split
  · exact List.drop_suffix 1 r
  · show (if isWhite (see (hexRun 6 0 r).2 0) then (hexRun 6 0 r).2.tail else (hexRun 6 0 r).2) <:+ r
    split
    · exact (suffix_tail _).trans (hex 6 0 r)
    · exact hex 6 0 r
theorem name_suff : ∀ (n : Nat) (l : List Int), l.length ≤ n → (name l).2 <:+ l
  | _, [], _ => List.suffix_refl _
  | 0, c :: r, hl => by simp at hl
  | n + 1, c :: r, hl => by
    have hlen := escd_len c r
    rw [List.length_cons] at hl
    rw [name_cons]
    split
    · exact (name_suff n r (by omega)).trans (List.suffix_cons c r)
    · split
      · exact ((name_suff n _ (by omega)).trans (escd_suffix c r)).trans (List.suffix_cons c r)
      · exact List.suffix_refl _
theorem str_suff (q : Int) : ∀ (n : Nat) (l : List Int), l.length ≤ n → (str q l).2 <:+ l
  | _, [], _ => List.suffix_refl _
  | 0, c :: r, hl => by simp at hl
  | n + 1, c :: r, hl => by
    have hlen := escd_len c r
    have ht := tail_le_len r
    rw [List.length_cons] at hl
    rw [str_cons]
    split
    · exact List.suffix_cons c r
    · split
      · exact List.suffix_refl _
      · split
        · split
          · exact List.nil_suffix
          · split
            · exact ((str_suff q n r.tail (by omega)).trans (suffix_tail r)).trans (List.suffix_cons c r)
            · exact ((str_suff q n _ (by omega)).trans (escd_suffix c r)).trans (List.suffix_cons c r)
        · exact (str_suff q n r (by omega)).trans (List.suffix_cons c r)
theorem numeric_suff (a : List Int) : (numeric nv a).2 <:+ a := by
  have hs := numText_suffix a
  unfold numeric
  simp only
  split
  · exact (name_suff _ _ (Nat.le_refl _)).trans hs
  · split
    · exact (suffix_tail _).trans hs
    · exact hs
theorem step_suff {l : List Int} (h : ¬ (see l 0 = 47 ∧ see l 1 = 42)) : (step nv l).2 <:+ l := by
  unfold step
  rw [if_neg h]
  split
  · exact List.dropWhile_suffix _
  · split
    · exact (str_suff _ _ _ (Nat.le_refl _)).trans (suffix_tail l)
    · split
      · exact (name_suff _ _ (Nat.le_refl _)).trans (suffix_tail l)
      · split
        · exact numeric_suff nv l
        · split
          · exact (name_suff _ _ (Nat.le_refl _)).trans (suffix_tail l)
          · split
            · split
              · exact (suffix_tail _).trans (name_suff _ _ (Nat.le_refl _))
              · exact name_suff _ _ (Nat.le_refl _)
            · split <;> exact suffix_tail l
theorem noComment.see {l : List Int} (h : noComment l) : ¬ (see l 0 = 47 ∧ see l 1 = 42) := by
  rintro ⟨h1, h2⟩
  match l, h1, h2 with
  | [], h1, _ => exact absurd h1 (by decide)
  | [c], _, h2 => exact absurd h2 (by simp [Go.Proofs.YtkhgmobependiaaDoor.see])
  | c :: d :: r, h1, h2 =>
    rw [see_zero] at h1
    rw [see_succ, see_zero] at h2
    subst h1 h2
    exact h [] r rfl
theorem step_some {l : List Int} (h : ¬ (see l 0 = 47 ∧ see l 1 = 42)) : ∃ k, (step nv l).1 = some k := by
  unfold step
  rw [if_neg h]
  repeat' split
  all_goals exact ⟨_, rfl⟩
theorem step_white_iff {l : List Int} (h : ¬ (see l 0 = 47 ∧ see l 1 = 42)) {k : Tk} (hk : (step nv l).1 = some k) (h9 : k.kind = 9) : isWhite (see l 0) = true ∧ (step nv l).2 = l.dropWhile isWhite := by
  revert hk
  unfold step
  rw [if_neg h]
  split
  · rename_i hw
    exact fun _ => ⟨hw, rfl⟩
  · intro hk
    exfalso
    revert hk
    split
    · cases (str (see l 0) l.tail).1 with
      | none => rintro ⟨⟩; exact absurd h9 (by simp)
      | some t => rintro ⟨⟩; exact absurd h9 (by simp)
    · split
      · rintro ⟨⟩; exact absurd h9 (by simp)
      · split
        · unfold numeric
          simp only
          split
          · rintro ⟨⟩; exact absurd h9 (by simp)
          · split
            · rintro ⟨⟩; exact absurd h9 (by simp)
            · rintro ⟨⟩; exact absurd h9 (by simp)
        · split
          · rintro ⟨⟩; exact absurd h9 (by simp)
          · split
            · split
              · rintro ⟨⟩; exact absurd h9 (by simp)
              · rintro ⟨⟩; exact absurd h9 (by simp)
            · split
              · rintro ⟨⟩
                simp only at h9
                rcases sign_le (see l 0) with h | h <;> omega
              · rintro ⟨⟩; exact absurd h9 (by simp)
theorem drop_head (p : Int → Bool) : ∀ l : List Int, p (-1) = false → p (see (l.dropWhile p) 0) = false
  | [], h => h
  | c :: r, h => by
    rw [List.dropWhile_cons]
    split
    · exact drop_head p r h
    · rename_i hc
      rw [see_zero]
      exact ff hc
/-- White beside white: only where a comment may begin. -/
def apart : List Tk → Prop
  | [] => True
  | [_] => True
  | x :: y :: r => ¬ (x.kind = 9 ∧ y.kind = 9) ∧ apart (y :: r)
theorem toks_apart : ∀ (n : Nat) (l : List Int), l.length ≤ n → noComment l → apart (toks nv l) ∧ ∀ k r, toks nv l = k :: r → k.kind = 9 → isWhite (see l 0) = true
  | _, [], _, _ => ⟨trivial, by simp [toks_nil]⟩
  | 0, c :: r, hl, _ => by simp at hl
  | n + 1, c :: r, hl, hc => by
    have hs := hc.see
    have hlen := step_len nv c r
    rw [List.length_cons] at hl
    obtain ⟨k, hk⟩ := step_some nv hs
    obtain ⟨i1, i2⟩ := toks_apart n (step nv (c :: r)).2 (by omega) (hc.suffix (step_suff nv hs))
    have e : toks nv (c :: r) = k :: toks nv (step nv (c :: r)).2 := by rw [toks_cons, hk]; rfl
    refine ⟨?_, ?_⟩
    · rw [e]
      cases hy : toks nv (step nv (c :: r)).2 with
      | nil => trivial
      | cons y ys =>
        rw [hy] at i1
        refine ⟨?_, i1⟩
        rintro ⟨h1, h2⟩
        have hw := step_white_iff nv hs hk h1
        have := i2 y ys hy h2
        rw [hw.2, drop_head isWhite _ (by decide)] at this
        cases this
    · intro k' r' h' h9
      rw [e] at h'
      cases h'
      exact (step_white_iff nv hs hk h9).1

end Go.Proofs.YtkhgmobependiaaDoor

/- How long a token's text can be. No program in this text. -/
namespace Go.Proofs.YtkhgmobependiaaDoor

theorem nameF_both : ∀ (f : Nat) (l : List Int), (nameF f l).1.length + (nameF f l).2.length ≤ l.length
  | 0, l => by simp [nameF]
  | _ + 1, [] => by simp [nameF]
  | f + 1, c :: r => by
    have h1 := nameF_both f r
    have h2 := nameF_both f (escd (c :: r)).2
    have h3 := escd_len c r
    unfold nameF
    rw [List.length_cons]
    split
    · simp only [List.length_cons]
      omega
    · split
      · simp only [List.length_cons]
        omega
      · simp
theorem strF_both (q : Int) : ∀ (f : Nat) (l s : List Int), (strF q f l).1 = some s → s.length + (strF q f l).2.length ≤ l.length
  | 0, l, s, h => by
    simp [strF] at h ⊢
    subst h
    simp
  | _ + 1, [], s, h => by
    simp [strF] at h ⊢
    exact h
  | f + 1, c :: r, s, h => by
    have h3 := escd_len c r
    have ht := tail_le_len r
    unfold strF at h ⊢
    rw [List.length_cons]
    by_cases h1 : c = q
    · rw [if_pos h1] at h ⊢
      cases h
      simp
    · rw [if_neg h1] at h ⊢
      by_cases h2 : c = 10
      · rw [if_pos h2] at h
        cases h
      · rw [if_neg h2] at h ⊢
        by_cases h4 : c = 92
        · rw [if_pos h4] at h ⊢
          by_cases h5 : r = []
          · rw [if_pos h5] at h ⊢
            cases h
            simp
          · rw [if_neg h5] at h ⊢
            by_cases h6 : see r 0 = 10
            · rw [if_pos h6] at h ⊢
              have := strF_both q f _ _ h
              omega
            · rw [if_neg h6] at h ⊢
              obtain ⟨u, hu, rfl⟩ := Option.map_eq_some_iff.1 h
              have := strF_both q f _ _ hu
              simp only [List.length_cons]
              omega
        · rw [if_neg h4] at h ⊢
          obtain ⟨u, hu, rfl⟩ := Option.map_eq_some_iff.1 h
          have := strF_both q f _ _ hu
          simp only [List.length_cons]
          omega
theorem name_text (l : List Int) : (name l).1.length ≤ l.length := by
  have := nameF_both l.length l
  unfold name
  omega
theorem numeric_text (nv : List Int → Int) (l : List Int) : (numeric nv l).1.text.length ≤ l.length := by
  have h1 := name_text (numText l).2.1
  have h2 := (numText_suffix l).length_le
  unfold numeric
  simp only
  split
  · exact Nat.le_trans h1 h2
  · split <;> exact Nat.zero_le _
theorem step_text (nv : List Int → Int) (l : List Int) (t : Tk) (h : (step nv l).1 = some t) : t.text.length ≤ l.length := by
  have ht := tail_le_len l
  have hn := name_text l
  have hnt := name_text l.tail
  unfold step at h
  split at h
  · cases h
  · split at h
    · cases h; exact Nat.zero_le _
    · split at h
      · cases h
        cases hs : (str (see l 0) l.tail).1 with
        | none => exact Nat.zero_le _
        | some s =>
          have := strF_both (see l 0) l.tail.length l.tail s hs
          show s.length ≤ _
          omega
      · split at h
        · cases h; exact Nat.le_trans hnt ht
        · split at h
          · cases h; exact numeric_text nv l
          · split at h
            · cases h; exact Nat.le_trans hnt ht
            · split at h
              · split at h
                · cases h; exact hn
                · cases h; exact hn
              · split at h
                · cases h; exact Nat.zero_le _
                · cases h; exact Nat.zero_le _
theorem toks_text (nv : List Int → Int) : ∀ (n : Nat) (l : List Int), l.length ≤ n → ∀ t ∈ toks nv l, t.text.length ≤ l.length
  | _, [], _ => by simp [toks_nil]
  | 0, c :: r, h => by simp at h
  | n + 1, c :: r, h => by
    intro t ht
    have hs := step_len nv c r
    rw [List.length_cons] at h
    rw [toks_cons] at ht
    rcases List.mem_append.1 ht with ht | ht
    · exact step_text nv _ t (by simpa using ht)
    · have := toks_text nv n _ (by omega) t ht
      rw [List.length_cons]
      omega

end Go.Proofs.YtkhgmobependiaaDoor
