/- Plain facts on tokens over lists: numbers, escapes. -/
import Derived.Test.YtgfbgfcakblpoaaTkA
namespace Go.Proofs.Ytgfbgfcakblpoaa

variable (nv : List Int → Int)

/-! ### numbers -/
theorem take_digits (x : List Int) (hx : isDigit (see x 0) = false) : ∀ l : List Int, l.all isDigit = true → (l ++ x).takeWhile isDigit = l ∧ (l ++ x).dropWhile isDigit = x
  | [], _ => by
    cases x with
    | nil => exact ⟨rfl, rfl⟩
    | cons c r =>
      rw [see_zero] at hx
      exact ⟨by rw [List.nil_append, List.takeWhile_cons, hx]; rfl, by rw [List.nil_append, List.dropWhile_cons, hx]; rfl⟩
  | c :: l, h => by
    have h' : isDigit c = true ∧ l.all isDigit = true := by simpa using h
    obtain ⟨i1, i2⟩ := take_digits x hx l h'.2
    exact ⟨by rw [List.cons_append, List.takeWhile_cons, if_pos h'.1, i1], by rw [List.cons_append, List.dropWhile_cons, if_pos h'.1, i2]⟩
/-- Of a sign or none. -/
def isSgn (g : List Int) : Prop := g = [] ∨ g = [45] ∨ g = [43]
theorem sgn_parts {g : List Int} (hg : isSgn g) {d : Int} (hd : isDigit d = true) (l : List Int) : unsign (g ++ d :: l) = d :: l ∧ sgn (g ++ d :: l) = g := by
  have h := isDigit_iff.1 hd
  rcases hg with rfl | rfl | rfl
  · exact ⟨unsign_no (by rw [List.nil_append, see_zero]; omega) (by rw [List.nil_append, see_zero]; omega), by unfold sgn; rw [List.nil_append, see_zero, if_neg (by simp; omega)]⟩
  · exact ⟨rfl, rfl⟩
  · exact ⟨rfl, rfl⟩
theorem numText_flat {g d x : List Int} (hg : isSgn g) (hne : d ≠ []) (hd : d.all isDigit = true) (hx : isDigit (see x 0) = false) (hp : pointed x = false) : numText (g ++ d ++ x) = (g ++ d, x, true) := by
  cases d with
  | nil => exact absurd rfl hne
  | cons a d =>
    have h' : isDigit a = true ∧ d.all isDigit = true := by simpa using hd
    obtain ⟨u, s⟩ := sgn_parts hg h'.1 (d ++ x)
    obtain ⟨t1, t2⟩ := take_digits x hx (a :: d) hd
    rw [List.append_assoc, List.cons_append]
    unfold numText
    rw [u, s]
    rw [List.cons_append] at t1 t2
    simp only
    rw [t1, t2, hp]
    rfl
theorem numText_deep {g d f x : List Int} (hg : isSgn g) (hne : d ≠ []) (hd : d.all isDigit = true) (hfe : f ≠ []) (hf : f.all isDigit = true) (hx : isDigit (see x 0) = false) : numText (g ++ d ++ (46 :: f ++ x)) = (g ++ d ++ 46 :: f, x, false) := by
  cases d with
  | nil => exact absurd rfl hne
  | cons a d =>
    cases f with
    | nil => exact absurd rfl hfe
    | cons b f =>
      have h' : isDigit a = true ∧ d.all isDigit = true := by simpa using hd
      have h2 : isDigit b = true ∧ f.all isDigit = true := by simpa using hf
      obtain ⟨u, s⟩ := sgn_parts hg h'.1 (d ++ (46 :: b :: f ++ x))
      obtain ⟨t1, t2⟩ := take_digits (46 :: b :: f ++ x) rfl (a :: d) hd
      obtain ⟨t3, t4⟩ := take_digits x hx (b :: f) hf
      rw [List.append_assoc, List.cons_append]
      unfold numText
      rw [u, s]
      rw [List.cons_append] at t1 t2
      simp only
      rw [t1, t2]
      have hp : pointed (46 :: b :: f ++ x) = true := by
        unfold pointed
        rw [List.cons_append, List.cons_append, see_zero, see_succ, see_zero, h2.1]
        rfl
      rw [hp, if_pos rfl, show (46 :: b :: f ++ x).tail = b :: f ++ x from rfl, t3, t4]
theorem begNum_parts {g d : List Int} (hg : isSgn g) (hne : d ≠ []) (hd : d.all isDigit = true) (x : List Int) : begNum (g ++ d ++ x) = true := by
  cases d with
  | nil => exact absurd rfl hne
  | cons a d =>
    have h' : isDigit a = true ∧ d.all isDigit = true := by simpa using hd
    obtain ⟨u, _⟩ := sgn_parts hg h'.1 (d ++ x)
    unfold begNum
    rw [List.append_assoc, List.cons_append, u, see_zero, h'.1]
    rfl
theorem step_num {l : List Int} (hb : begNum l = true) : step nv l = (some (numeric nv l).1, (numeric nv l).2) := by
  have hc : see l 0 = 43 ∨ see l 0 = 45 ∨ (48 ≤ see l 0 ∧ see l 0 ≤ 57) ∨ see l 0 = 46 := by
    by_cases h1 : see l 0 = 43
    · exact .inl h1
    · by_cases h2 : see l 0 = 45
      · exact .inr (.inl h2)
      · unfold begNum at hb
        rw [unsign_no h1 h2, Bool.or_eq_true, Bool.and_eq_true, beq_iff_eq] at hb
        rcases hb with h | h
        · exact .inr (.inr (.inl (isDigit_iff.1 h)))
        · exact .inr (.inr (.inr h.1))
  unfold step
  rw [if_neg (by omega), isWhite_no (by omega), if_neg (by decide), if_neg (by omega), if_neg (by omega), if_pos hb]
theorem toks_step {l : List Int} {t : Tk} {r : List Int} (h : step nv l = (some t, r)) (hne : l ≠ []) : toks nv l = t :: toks nv r := by
  cases l with
  | nil => exact absurd rfl hne
  | cons c l => rw [toks_cons, h]; rfl
/-- What stands behind a number's text, of each kind that the law draws. -/
theorem toks_behind {t x : List Int} {w : Bool} (hb : begNum (t ++ x) = true) (hne : t ++ x ≠ []) (ht : numText (t ++ x) = (t, x, w)) :
    (x = [] → toks nv (t ++ x) = [⟨6, [], nv t, w, 0⟩])
    ∧ (x = [37] → toks nv (t ++ x) = [⟨7, [], nv t, false, 0⟩])
    ∧ (x = [112, 120] → toks nv (t ++ x) = [⟨8, [112, 120], nv t, false, 0⟩])
    ∧ (x = [32, 112, 120] → toks nv (t ++ x) = [⟨6, [], nv t, w, 0⟩, ⟨9, [], 0, false, 0⟩, ⟨1, [112, 120], 0, false, 0⟩])
    ∧ (x = [46] → toks nv (t ++ x) = [⟨6, [], nv t, w, 0⟩, ⟨10, [], 0, false, 46⟩])
    ∧ (x = [45] → toks nv (t ++ x) = [⟨6, [], nv t, w, 0⟩, ⟨10, [], 0, false, 45⟩])
    ∧ (x = [43, 49] → toks nv (t ++ x) = [⟨6, [], nv t, w, 0⟩, ⟨6, [], nv [43, 49], true, 0⟩]) := by
  have hs := step_num nv hb
  have hpx : toks nv [112, 120] = [⟨1, [112, 120], 0, false, 0⟩] := (toks_names nv (c := 112) (l := [120]) (by decide)).1
  have flat : begName x = false → see x 0 ≠ 37 → toks nv (t ++ x) = ⟨6, [], nv t, w, 0⟩ :: toks nv x := fun h1 h2 => by
    refine toks_step nv ?_ hne
    rw [hs]
    unfold numeric
    rw [ht]
    simp only
    rw [h1, if_neg (by decide), if_neg h2]
  refine ⟨?_, ?_, ?_, ?_, ?_, ?_, ?_⟩
  · rintro rfl
    rw [flat rfl (by decide), toks_nil]
  · rintro rfl
    refine toks_step nv (r := []) ?_ hne
    rw [hs]
    unfold numeric
    rw [ht]
    simp only
    rw [if_neg (by decide), if_pos (show see [37] 0 = 37 from rfl)]
    rfl
  · rintro rfl
    refine toks_step nv (r := []) ?_ hne
    rw [hs]
    unfold numeric
    rw [ht]
    simp only
    rw [if_pos (by decide), show name [112, 120] = ([112, 120], []) by decide]
  · rintro rfl
    rw [flat (by decide) (by decide), toks_cons, step_white nv _ (by decide)]
    show _ :: _ :: toks nv [112, 120] = _
    rw [hpx]
  · rintro rfl
    rw [flat (by decide) (by decide), toks_delim nv (by decide) (by decide) (by decide) (by decide) (by decide) (by decide) (by decide) (by decide) (by decide)]
  · rintro rfl
    rw [flat (by decide) (by decide), toks_delim nv (by decide) (by decide) (by decide) (by decide) (by decide) (by decide) (by decide) (by decide) (by decide)]
  · rintro rfl
    have h1 : toks nv [43, 49] = [⟨6, [], nv [43, 49], true, 0⟩] := by
      refine toks_step nv (r := []) ?_ (by simp)
      rw [step_num nv (by decide)]
      unfold numeric
      rw [show numText [43, 49] = ([43, 49], [], true) by decide]
      rfl
    rw [flat (by decide) (by decide), h1]

/-! ### escapes -/
def hexVal (v : Int) (h : List Int) : Int := h.foldl (fun n c => n * 16 + hexv c) v
def isHex (c : Int) : Bool := decide (0 ≤ hexv c)
theorem isHex_iff {c : Int} : isHex c = true ↔ 0 ≤ hexv c := by simp [isHex]
theorem hexRun_all : ∀ (k : Nat) (v : Int) (h x : List Int), h.all isHex = true → h.length ≤ k → (h.length = k ∨ hexv (see x 0) < 0) → hexRun k v (h ++ x) = (hexVal v h, x)
  | 0, v, h, x, _, hl, _ => by
    have : h = [] := List.length_eq_zero_iff.1 (by omega)
    subst this
    rfl
  | k + 1, v, [], x, _, _, hs => by
    have hs : hexv (see x 0) < 0 := hs.resolve_left (by simp)
    cases x with
    | nil => rfl
    | cons c r =>
      rw [see_zero] at hs
      rw [List.nil_append, hexRun, if_neg (by omega)]
      rfl
  | k + 1, v, c :: h, x, ha, hl, hs => by
    have h' : isHex c = true ∧ h.all isHex = true := by simpa using ha
    rw [List.cons_append, hexRun, if_pos (isHex_iff.1 h'.1), hexRun_all k _ h x h'.2 (by simp at hl; omega) (by simp at hs; omega)]
    rfl
theorem escd_hex {c : Int} {h x : List Int} (ha : (c :: h).all isHex = true) (hl : (c :: h).length ≤ 6) (hs : (c :: h).length = 6 ∨ hexv (see x 0) < 0) :
    escd (92 :: (c :: h ++ x)) = (hexPoint (hexVal 0 (c :: h)), if isWhite (see x 0) then x.tail else x) := by
  have h' : isHex c = true ∧ h.all isHex = true := by simpa using ha
  have hr := hexRun_all 6 0 (c :: h) x ha hl hs
  unfold escd
  rw [see_succ, show (92 :: (c :: h ++ x)).tail = c :: h ++ x from rfl, hr, List.cons_append, see_zero, if_neg (by have := isHex_iff.1 h'.1; omega)]
theorem hex_plain {c : Int} (h : isHex c = true) : 48 ≤ c ∧ c ≤ 102 := by
  have := isHex_iff.1 h
  unfold hexv at this
  repeat' split at this
  all_goals omega
theorem escAt_hex {c : Int} (r : List Int) (h : isHex c = true) : escAt (92 :: c :: r) = true := by
  have := hex_plain h
  unfold escAt
  rw [see_zero, see_succ, see_zero]
  simp
  omega
theorem step_esc {r : List Int} (h : escAt (92 :: r) = true) : step nv (92 :: r) = if see (name (92 :: r)).2 0 = 40 then (some ⟨20, (name (92 :: r)).1, 0, false, 0⟩, (name (92 :: r)).2.tail) else (some ⟨1, (name (92 :: r)).1, 0, false, 0⟩, (name (92 :: r)).2) := by
  unfold step
  rw [see_zero, if_neg (by omega), if_neg (by decide), if_neg (by decide), if_neg (by omega), begNum_no (by rw [see_zero]; decide) (by rw [see_zero]; decide) (by rw [see_zero]; decide) (by rw [see_zero]; decide), if_neg (by decide), if_neg (by omega), if_pos]
  unfold begName
  rw [see_zero, if_neg (by decide), h]
  rfl
/-- An escape of hexadecimal digits, and a g or nothing behind it. -/
theorem toks_escape {c : Int} {h x e : List Int} (ha : (c :: h).all isHex = true) (hl : (c :: h).length ≤ 6) (he : e = [] ∨ e = [103]) (hx : x = 32 :: e ∨ (x = e ∧ (c :: h).length = 6 ∧ e = [103])) :
    toks nv (92 :: (c :: h ++ x)) = [⟨1, hexPoint (hexVal 0 (c :: h)) :: e, 0, false, 0⟩] ∧ toks nv (34 :: (92 :: (c :: h ++ x) ++ [34])) = [⟨4, hexPoint (hexVal 0 (c :: h)) :: e, 0, false, 0⟩] := by
  have hc : isHex c = true := List.all_eq_true.1 ha c (List.mem_cons_self ..)
  have hcp := hex_plain hc
  have d1 : escd (92 :: (c :: h ++ x)) = (hexPoint (hexVal 0 (c :: h)), e) := by
    rcases hx with rfl | ⟨rfl, h6, rfl⟩
    · rw [escd_hex ha hl (.inr (by rw [see_zero]; decide)), see_zero]
      rfl
    · rw [escd_hex ha hl (.inl h6), see_zero]
      rfl
  have d2 : escd (92 :: (c :: h ++ (x ++ [34]))) = (hexPoint (hexVal 0 (c :: h)), e ++ [34]) := by
    rcases hx with rfl | ⟨rfl, h6, rfl⟩
    · rw [escd_hex ha hl (.inr (by rw [List.cons_append, see_zero]; decide)), List.cons_append, see_zero]
      rfl
    · rw [escd_hex ha hl (.inl h6)]
      rfl
  have ne : name e = (e, []) := by rcases he with rfl | rfl <;> decide
  have n1 : name (92 :: (c :: h ++ x)) = (hexPoint (hexVal 0 (c :: h)) :: e, []) := by
    rw [name_cons, if_neg (by decide), List.cons_append, if_pos (escAt_hex _ hc), ← List.cons_append, d1, ne]
  have se : str 34 (e ++ [34]) = (some e, []) := by rcases he with rfl | rfl <;> decide
  refine ⟨?_, ?_⟩
  · rw [toks_cons, step_esc nv (by rw [List.cons_append]; exact escAt_hex _ hc), n1, if_neg (by rw [see_nil]; decide)]
    rfl
  · refine toks_step nv (r := []) ?_ (by simp)
    rw [step_str nv (.inl rfl), List.cons_append, str_cons, if_neg (by decide), if_neg (by decide), if_pos rfl, if_neg (by simp), if_neg (by rw [List.cons_append, List.cons_append, see_zero]; omega), List.append_assoc, d2, se]
    rfl

end Go.Proofs.Ytgfbgfcakblpoaa
