/- Plain facts: the code points of bytes in parts, plain bytes, and what is prepared, for the tokens' laws. -/
import Derived.Test.YtkhgmobependiaaDoorBsB
import Derived.Test.YtkhgmobependiaaDoorBsH
namespace Go.Proofs.YtkhgmobependiaaDoor
open Go.Lib (decodeN)

/-! ### ahead of a plain byte -/
theorem dn_ahead4 (n m b0 b1 b2 b3 : Nat) (hn : 4 ≤ n) (hm : 4 ≤ m) : decodeN n b0 b1 b2 b3 = decodeN m b0 b1 b2 b3 := by
  unfold decodeN
  have e1 : (1 < n) = (1 < m) := propext ⟨fun _ => by omega, fun _ => by omega⟩
  have e2 : (2 < n) = (2 < m) := propext ⟨fun _ => by omega, fun _ => by omega⟩
  have e3 : (3 < n) = (3 < m) := propext ⟨fun _ => by omega, fun _ => by omega⟩
  simp only [e1, e2, e3]
theorem dn_ahead3 (n b0 b1 b2 b3 : Nat) (hn : 4 ≤ n) (h : b3 < 128) : decodeN n b0 b1 b2 b3 = decodeN 3 b0 b1 b2 0 := by
  unfold decodeN
  repeat' split
  all_goals first | (exfalso; omega) | rfl
theorem dn_ahead2 (n b0 b1 b2 b3 : Nat) (hn : 3 ≤ n) (h : b2 < 128) : decodeN n b0 b1 b2 b3 = decodeN 2 b0 b1 0 0 := by
  unfold decodeN
  repeat' split
  all_goals first | (exfalso; omega) | rfl
theorem dn_ahead1 (n b0 b1 b2 b3 : Nat) (_hn : 2 ≤ n) (h : b1 < 128) : decodeN n b0 b1 b2 b3 = decodeN 1 b0 0 0 0 := by
  unfold decodeN
  repeat' split
  all_goals first | (exfalso; omega) | rfl
theorem dec_ahead {a : List UInt8} (ha : a ≠ []) {c : UInt8} (hc : c.toNat < 128) (r : List UInt8) : dec (a ++ c :: r) = dec a := by
  rw [dec_eq (by simp), dec_eq ha, List.length_append, List.length_cons]
  have hpos := List.length_pos_iff.2 ha
  have hj : ∀ j, j < a.length → (a ++ c :: r)[j]? = a[j]? := fun j h => List.getElem?_append_left h
  have hn : ∀ j, a.length ≤ j → a[j]? = none := fun j h => List.getElem?_eq_none h
  have hat : (a ++ c :: r)[a.length]? = some c := by rw [List.getElem?_append_right (Nat.le_refl _)]; simp
  by_cases h4 : 4 ≤ a.length
  · rw [hj 0 (by omega), hj 1 (by omega), hj 2 (by omega), hj 3 (by omega)]
    exact dn_ahead4 _ _ _ _ _ _ (by omega) h4
  · by_cases h3 : a.length = 3
    · rw [hj 0 (by omega), hj 1 (by omega), hj 2 (by omega), hn 3 (by omega)]
      rw [h3] at hat ⊢
      exact dn_ahead3 _ _ _ _ _ (by omega) (by rw [hat]; exact hc)
    · by_cases h2 : a.length = 2
      · rw [hj 0 (by omega), hj 1 (by omega), hn 2 (by omega), hn 3 (by omega)]
        rw [h2] at hat ⊢
        exact dn_ahead2 _ _ _ _ _ (by omega) (by rw [hat]; exact hc)
      · have h1 : a.length = 1 := by omega
        rw [hj 0 (by omega), hn 1 (by omega), hn 2 (by omega), hn 3 (by omega)]
        rw [h1] at hat ⊢
        exact dn_ahead1 _ _ _ _ _ (by omega) (by rw [hat]; exact hc)
theorem ipts_ahead {c : UInt8} (hc : c.toNat < 128) (r : List UInt8) : ∀ (f : Nat) (a : List UInt8), a.length ≤ f → ipts (a ++ c :: r) = ipts a ++ ipts (c :: r)
  | _, [], _ => rfl
  | 0, x :: a, h => by simp at h
  | f + 1, x :: a, h => by
    have hne : x :: a ≠ [] := by simp
    have hd := dec_ahead hne hc r
    have hb := dec_bounds hne
    rw [ipts_cons (l := x :: a ++ c :: r) (by simp), ipts_cons hne, hd, List.drop_append_of_le_length hb.2.1]
    rw [List.length_cons] at h hb
    rw [ipts_ahead hc r f ((x :: a).drop (dec (x :: a)).2) (by simp only [List.length_drop, List.length_cons]; omega)]
    rfl
theorem dn_plain (n b0 b1 b2 b3 : Nat) (h : b0 < 128) : decodeN n b0 b1 b2 b3 = (b0, 1) := by unfold decodeN; rw [if_pos h]
theorem ipts_plain1 {c : UInt8} (hc : c.toNat < 128) (r : List UInt8) : ipts (c :: r) = (c.toNat : Int) :: ipts r := by
  have hd : dec (c :: r) = (c.toNat, 1) := by
    rw [dec_eq (by simp)]
    exact dn_plain _ _ _ _ _ hc
  rw [ipts_cons (by simp), hd]
  rfl
def ints (l : List UInt8) : List Int := l.map fun u => (u.toNat : Int)
theorem ipts_plain : ∀ l : List UInt8, (∀ u ∈ l, u.toNat < 128) → ipts l = ints l
  | [], _ => rfl
  | c :: r, h => by
    rw [ipts_plain1 (h c (List.mem_cons_self ..)), ipts_plain r fun u hu => h u (List.mem_cons_of_mem _ hu)]
    rfl
theorem dn_small (n b0 b1 b2 b3 : Nat) (_hn : 1 ≤ n) (h : (decodeN n b0 b1 b2 b3).1 < 128) : decodeN n b0 b1 b2 b3 = (b0, 1) ∧ b0 < 128 := by
  revert h
  unfold decodeN
  repeat' split
  all_goals (intro h; first | (exfalso; simp only at h; omega) | exact ⟨rfl, by omega⟩)
theorem dec_small {c : UInt8} {r : List UInt8} (h : (dec (c :: r)).1 < 128) : dec (c :: r) = (c.toNat, 1) ∧ c.toNat < 128 := by
  rw [dec_eq (by simp)] at h ⊢
  exact dn_small _ _ _ _ _ (by simp) h
/-- A code point below 128 is a byte. -/
theorem ipts_mem : ∀ (f : Nat) (l : List UInt8), l.length ≤ f → ∀ p ∈ ipts l, p < 128 → ∃ u ∈ l, (u.toNat : Int) = p
  | _, [], _ => by simp [ipts_nil]
  | 0, c :: r, h => by simp at h
  | f + 1, c :: r, h => by
    have hb := dec_bounds (l := c :: r) (by simp)
    rw [List.length_cons] at h hb
    intro p hp hlt
    rw [ipts_cons (by simp)] at hp
    rcases List.mem_cons.1 hp with rfl | hp
    · have hd := dec_small (c := c) (r := r) (by omega)
      exact ⟨c, List.mem_cons_self .., by rw [hd.1]⟩
    · obtain ⟨u, hu, e⟩ := ipts_mem f _ (by simp only [List.length_drop, List.length_cons]; omega) p hp hlt
      exact ⟨u, List.mem_of_mem_drop hu, e⟩
theorem ipts_nonneg (l : List UInt8) : ∀ p ∈ ipts l, 0 ≤ p := by
  intro p hp
  unfold ipts at hp
  obtain ⟨n, _, rfl⟩ := List.mem_map.1 hp
  exact Int.natCast_nonneg n

/-! ### prepared -/
theorem prepFrom_append (q : List Int) (hq : see q 0 ≠ 10) : ∀ (p : List Int) (c : Bool), prepFrom c (p ++ q) = prepFrom c p ++ prepFrom false q
  | [], c => by
    cases q with
    | nil => rfl
    | cons x q =>
      rw [see_zero] at hq
      show prepFrom c (x :: q) = prepFrom false (x :: q)
      rw [prepFrom, prepFrom, if_neg (fun h => hq h.2), if_neg (fun h => hq h.2)]
  | x :: p, c => by
    have ih := prepFrom_append q hq p (x == 13)
    rw [List.cons_append, prepFrom, prepFrom, ih]
    split <;> rfl
theorem prep_append (p q : List Int) (hq : see q 0 ≠ 10) : prep (p ++ q) = prep p ++ prep q := prepFrom_append q hq p false
theorem prep_cons {x : Int} (h1 : x ≠ 13) (h2 : x ≠ 12) (h3 : x ≠ 0) (q : List Int) : prep (x :: q) = x :: prep q := by
  unfold prep
  rw [prepFrom, if_neg (fun h => by cases h.1), show (x == 13) = false by simpa using h1, repl, if_neg (by omega), if_neg h3]
theorem repl_small {p x : Int} (h : repl p = x) (h1 : x ≠ 10) (h2 : x ≠ 65533) : p = x := by
  unfold repl at h
  split at h
  · omega
  · split at h
    · omega
    · exact h
theorem prepFrom_mem : ∀ (l : List Int) (c : Bool), ∀ x ∈ prepFrom c l, x ≠ 10 → x ≠ 65533 → x ∈ l
  | [], _ => by simp [prepFrom]
  | p :: t, c => by
    intro x hx h1 h2
    rw [prepFrom] at hx
    split at hx
    · exact List.mem_cons_of_mem _ (prepFrom_mem t _ x hx h1 h2)
    · rcases List.mem_cons.1 hx with rfl | hx
      · have e := repl_small (p := p) rfl h1 h2
        rw [← e]
        exact List.mem_cons_self ..
      · exact List.mem_cons_of_mem _ (prepFrom_mem t _ x hx h1 h2)
/-- A code point below 128 of prepared bytes, no 10, is a byte. -/
theorem prep_mem (l : List UInt8) {x : Int} (hx : x ∈ prep (ipts l)) (h1 : x ≠ 10) (h2 : x < 128) : ∃ u ∈ l, (u.toNat : Int) = x :=
  ipts_mem _ l (Nat.le_refl _) x (prepFrom_mem _ _ x hx h1 (by omega)) h2
theorem prep_plainly {a : List UInt8} (h : ∀ u ∈ a, u.toNat ≠ 34 ∧ u.toNat ≠ 39 ∧ u.toNat ≠ 47 ∧ u.toNat ≠ 92) : Plainly (prep (ipts a)) := by
  intro c hc
  have key : ∀ k : Int, k ≠ 10 → k < 128 → (∀ u ∈ a, (u.toNat : Int) ≠ k) → c ≠ k := by
    rintro k h1 h2 h3 rfl
    obtain ⟨u, hu, e⟩ := prep_mem a hc h1 h2
    exact h3 u hu e
  exact ⟨key 34 (by decide) (by decide) fun u hu => by have := h u hu; omega, key 39 (by decide) (by decide) fun u hu => by have := h u hu; omega, key 47 (by decide) (by decide) fun u hu => by have := h u hu; omega, key 92 (by decide) (by decide) fun u hu => by have := h u hu; omega⟩
theorem prep_free {b : List UInt8} {k : Nat} (hk : k < 128) (h10 : k ≠ 10) (h : ∀ u ∈ b, u.toNat ≠ k) : ∀ c ∈ prep (ipts b), c ≠ (k : Int) := by
  rintro c hc rfl
  obtain ⟨u, hu, e⟩ := prep_mem b hc (by omega) (by omega)
  exact h u hu (by omega)
/-- The first code point is no white where the first byte is none. -/
theorem prep_first {b : List UInt8} (h : ∀ u, b.head? = some u → u.toNat ≠ 10 ∧ u.toNat ≠ 13 ∧ u.toNat ≠ 12 ∧ u.toNat ≠ 9 ∧ u.toNat ≠ 32) : isWhite (see (prep (ipts b)) 0) = false := by
  cases b with
  | nil => rfl
  | cons c r =>
    have hc := h c rfl
    rw [ipts_cons (by simp)]
    unfold prep
    rw [prepFrom, if_neg (fun e => by cases e.1), see_zero]
    by_cases hs : (dec (c :: r)).1 < 128
    · obtain ⟨e, _⟩ := dec_small hs
      rw [e]
      simp only
      unfold repl
      split
      · omega
      · split
        · decide
        · exact isWhite_no (by omega)
    · unfold repl
      rw [if_neg (by omega), if_neg (by omega)]
      exact isWhite_no (by omega)
/-! ### no comment -/
theorem noComment_cons {c : Int} {l : List Int} (h1 : ¬ (c = 47 ∧ see l 0 = 42)) (h2 : noComment l) : noComment (c :: l) := by
  intro p q e
  cases p with
  | nil =>
    rw [List.nil_append, List.cons.injEq] at e
    exact h1 ⟨e.1, by rw [e.2, see_zero]⟩
  | cons x p =>
    rw [List.cons_append, List.cons.injEq] at e
    exact h2 p q e.2
theorem noComment_uncons {c : Int} {l : List Int} (h : noComment (c :: l)) : ¬ (c = 47 ∧ see l 0 = 42) ∧ noComment l := by
  refine ⟨?_, h.suffix (List.suffix_cons c l)⟩
  rintro ⟨rfl, h2⟩
  cases l with
  | nil => exact absurd h2 (by decide)
  | cons d r => rw [see_zero] at h2; subst h2; exact h [] r rfl
theorem prepFrom_noComment : ∀ (l : List Int) (c : Bool), noComment l → noComment (prepFrom c l)
  | [], _, _ => by intro p q e; simp [prepFrom] at e
  | p :: t, c, h => by
    obtain ⟨h1, h2⟩ := noComment_uncons h
    have ih := prepFrom_noComment t (p == 13) h2
    rw [prepFrom]
    split
    · exact ih
    · refine noComment_cons ?_ ih
      rintro ⟨e1, e2⟩
      have hp : p = 47 := repl_small e1 (by decide) (by decide)
      subst hp
      refine h1 ⟨rfl, ?_⟩
      cases t with
      | nil => exact absurd e2 (by decide)
      | cons x t =>
        rw [prepFrom, if_neg (fun e => by cases e.1), see_zero] at e2
        rw [see_zero]
        exact repl_small e2 (by decide) (by decide)
/-- No comment begins in the bytes. -/
def noBytes (l : List UInt8) : Prop := ∀ j u v, l[j]? = some u → l[j + 1]? = some v → ¬ (u.toNat = 47 ∧ v.toNat = 42)
theorem noBytes.drop {l : List UInt8} (h : noBytes l) (n : Nat) : noBytes (l.drop n) := by
  intro j u v h1 h2
  rw [List.getElem?_drop] at h1 h2
  exact h (n + j) u v h1 h2
theorem ipts_noComment : ∀ (f : Nat) (l : List UInt8), l.length ≤ f → noBytes l → noComment (ipts l)
  | _, [], _, _ => by intro p q e; simp [ipts_nil] at e
  | 0, c :: r, h, _ => by simp at h
  | f + 1, c :: r, h, hb => by
    have hbd := dec_bounds (l := c :: r) (by simp)
    rw [List.length_cons] at h hbd
    have ih := ipts_noComment f ((c :: r).drop (dec (c :: r)).2) (by simp only [List.length_drop, List.length_cons]; omega) (hb.drop _)
    rw [ipts_cons (by simp)]
    refine noComment_cons ?_ ih
    rintro ⟨e1, e2⟩
    obtain ⟨hd, hc⟩ := dec_small (c := c) (r := r) (by omega)
    rw [hd] at e1 e2
    simp only [List.drop_succ_cons, List.drop_zero] at e1 e2
    cases r with
    | nil => exact absurd e2 (by decide)
    | cons d r =>
      rw [ipts_cons (by simp), see_zero] at e2
      obtain ⟨hd2, _⟩ := dec_small (c := d) (r := r) (by omega)
      rw [hd2] at e2
      simp only at e2
      exact hb 0 c d rfl rfl ⟨by omega, by omega⟩
theorem prep_noComment {l : List UInt8} (h : noBytes l) : noComment (prep (ipts l)) := prepFrom_noComment _ _ (ipts_noComment _ l (Nat.le_refl _) h)
theorem prep_ints (l : List UInt8) (h : ∀ u ∈ l, u.toNat < 128 ∧ u.toNat ≠ 13 ∧ u.toNat ≠ 12 ∧ u.toNat ≠ 0) : prep (ipts l) = ints l := by
  rw [ipts_plain l fun u hu => (h u hu).1]
  induction l with
  | nil => rfl
  | cons c r ih =>
    obtain ⟨_, h1, h2, h3⟩ := h c (List.mem_cons_self ..)
    show prep ((c.toNat : Int) :: ints r) = _
    rw [prep_cons (by omega) (by omega) (by omega), ih fun u hu => h u (List.mem_cons_of_mem _ hu)]
    rfl

end Go.Proofs.YtkhgmobependiaaDoor
