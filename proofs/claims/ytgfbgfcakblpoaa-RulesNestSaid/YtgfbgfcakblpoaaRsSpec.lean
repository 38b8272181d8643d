/- Things and rules of tokens, in plain words over lists (chapter 5): no program in this text. A list ks holds the tokens' kinds. -/
import Derived.WalkKit
namespace Go.Proofs.Ytgfbgfcakblpoaa

/-- The kind that closes what a kind opens; 0: it opens nothing. -/
def clos (k : Int) : Int := if k = 14 then 15 else if k = 16 ∨ k = 20 then 17 else if k = 18 then 19 else 0
/-- What is open behind a token of the kind k, the innermost first. -/
def opn (st : List Int) (k : Int) : List Int := if 0 < clos k then clos k :: st else if st.head? = some k then st.tail else st
/-- How many tokens it takes until nothing is open (or all). -/
def run : List Int → List Int → Nat
  | _, [] => 0
  | st, k :: r => if opn st k = [] then 1 else 1 + run (opn st k) r
/-- What is open at last. -/
def opns (st : List Int) (ks : List Int) : List Int := ks.foldl opn st

theorem clos_cases (k : Int) : (k = 14 ∧ clos k = 15) ∨ ((k = 16 ∨ k = 20) ∧ clos k = 17) ∨ (k = 18 ∧ clos k = 19) ∨ (k ≠ 14 ∧ k ≠ 16 ∧ k ≠ 20 ∧ k ≠ 18 ∧ clos k = 0) := by
  unfold clos
  by_cases h1 : k = 14
  · exact .inl ⟨h1, if_pos h1⟩
  · by_cases h2 : k = 16 ∨ k = 20
    · exact .inr (.inl ⟨h2, by rw [if_neg h1, if_pos h2]⟩)
    · by_cases h3 : k = 18
      · exact .inr (.inr (.inl ⟨h3, by rw [if_neg h1, if_neg h2, if_pos h3]⟩))
      · exact .inr (.inr (.inr ⟨h1, fun e => h2 (.inl e), fun e => h2 (.inr e), h3, by rw [if_neg h1, if_neg h2, if_neg h3]⟩))
theorem run_le : ∀ (st ks : List Int), run st ks ≤ ks.length
  | _, [] => Nat.le_refl _
  | st, k :: r => by
    have := run_le (opn st k) r
    unfold run
    rw [List.length_cons]
    split <;> omega
theorem run_pos (st : List Int) (k : Int) (r : List Int) : 0 < run st (k :: r) := by
  unfold run
  split <;> omega
theorem run_cons_nil {st : List Int} {k : Int} (r : List Int) (h : opn st k = []) : run st (k :: r) = 1 := by rw [run, if_pos h]
theorem run_cons_more {st : List Int} {k : Int} (r : List Int) (h : opn st k ≠ []) : run st (k :: r) = 1 + run (opn st k) r := by rw [run, if_neg h]
theorem opn_open {st : List Int} {k : Int} (h : 0 < clos k) : opn st k = clos k :: st := if_pos h
theorem opn_shut {st : List Int} {k : Int} (h : clos k = 0) : opn st k = if st.head? = some k then st.tail else st := by
  unfold opn
  rw [if_neg (by omega)]
theorem clos_nonneg (k : Int) : 0 ≤ clos k := by rcases clos_cases k with h | h | h | h <;> omega
theorem opn_nil {k : Int} (h : clos k = 0) : opn [] k = [] := by rw [opn_shut h]; simp

/-- Where the first thing begins whose kind is wanted. -/
def uptoF (p : Int → Bool) : Nat → List Int → Nat
  | 0, _ => 0
  | _ + 1, [] => 0
  | f + 1, k :: r => if p k then 0 else run [] (k :: r) + uptoF p f ((k :: r).drop (run [] (k :: r)))
def upto (p : Int → Bool) (ks : List Int) : Nat := uptoF p ks.length ks
theorem uptoF_more (p : Int → Bool) : ∀ (f g : Nat) (l : List Int), l.length ≤ f → l.length ≤ g → uptoF p f l = uptoF p g l
  | 0, 0, _, _, _ => rfl
  | 0, g + 1, l, hf, _ => by
    have : l = [] := List.length_eq_zero_iff.1 (by omega)
    subst this
    rfl
  | f + 1, 0, l, _, hg => by
    have : l = [] := List.length_eq_zero_iff.1 (by omega)
    subst this
    rfl
  | f + 1, g + 1, [], _, _ => rfl
  | f + 1, g + 1, k :: r, hf, hg => by
    have hp := run_pos [] k r
    have hd : ((k :: r).drop (run [] (k :: r))).length ≤ r.length := by rw [List.length_drop, List.length_cons]; omega
    rw [List.length_cons] at hf hg
    simp only [uptoF, uptoF_more p f g _ (Nat.le_trans hd (by omega)) (Nat.le_trans hd (by omega))]
theorem upto_nil (p : Int → Bool) : upto p [] = 0 := rfl
theorem upto_cons (p : Int → Bool) (k : Int) (r : List Int) : upto p (k :: r) = if p k then 0 else run [] (k :: r) + upto p ((k :: r).drop (run [] (k :: r))) := by
  have hp := run_pos [] k r
  have hd : ((k :: r).drop (run [] (k :: r))).length ≤ r.length := by rw [List.length_drop, List.length_cons]; omega
  unfold upto
  rw [List.length_cons, uptoF, uptoF_more p r.length _ _ hd (Nat.le_refl _)]
theorem upto_le (p : Int → Bool) : ∀ (n : Nat) (ks : List Int), ks.length ≤ n → upto p ks ≤ ks.length
  | _, [], _ => Nat.le_refl _
  | 0, k :: r, h => by simp at h
  | n + 1, k :: r, h => by
    have hp := run_pos [] k r
    have hl := run_le [] (k :: r)
    have hd : ((k :: r).drop (run [] (k :: r))).length = (k :: r).length - run [] (k :: r) := List.length_drop
    have ih := upto_le p n ((k :: r).drop (run [] (k :: r))) (by rw [List.length_cons] at h hd; omega)
    rw [upto_cons]
    split
    · exact Nat.zero_le _
    · omega

/-! ### the bottom of what is open -/
theorem opn_bottom {st : List Int} {c k : Int} (h : st ≠ [] ∨ k ≠ c ∨ 0 < clos k) : opn (st ++ [c]) k = opn st k ++ [c] := by
  rcases (show 0 < clos k ∨ clos k = 0 by have := clos_nonneg k; omega) with h1 | h1
  · rw [opn_open h1, opn_open h1]
    rfl
  · rw [opn_shut h1, opn_shut h1]
    cases st with
    | nil =>
      have hk : k ≠ c := by
        rcases h with h | h | h
        · exact absurd rfl h
        · exact h
        · omega
      simp [Ne.symm hk]
    | cons a s =>
      by_cases e : a = k
      · rw [if_pos (by simp [e]), if_pos (by simp [e])]
        rfl
      · rw [if_neg (by simp [e]), if_neg (by simp [e])]
theorem run_bottom : ∀ (ks st : List Int) (c : Int), (st ≠ [] ∨ ∀ k, ks.head? = some k → k ≠ c ∨ 0 < clos k) → run (st ++ [c]) ks = run st ks + run [c] (ks.drop (run st ks))
  | [], st, c, _ => rfl
  | k :: r, st, c, h => by
    have hb : opn (st ++ [c]) k = opn st k ++ [c] := by
      apply opn_bottom
      rcases h with h | h
      · exact .inl h
      · exact .inr (h k rfl)
    have hne : opn (st ++ [c]) k ≠ [] := by rw [hb]; simp
    rw [run_cons_more r hne, hb]
    by_cases h0 : opn st k = []
    · rw [run_cons_nil r h0, h0]
      rfl
    · rw [run_cons_more r h0, run_bottom r (opn st k) c (.inl h0), Nat.add_comm 1 (run (opn st k) r), List.drop_succ_cons]
      omega
theorem opns_bottom : ∀ (ks st : List Int) (c : Int), (st ≠ [] ∨ ∀ k, ks.head? = some k → k ≠ c ∨ 0 < clos k) → opns (st ++ [c]) (ks.take (run st ks)) = opns st (ks.take (run st ks)) ++ [c]
  | [], st, c, _ => rfl
  | k :: r, st, c, h => by
    have hb : opn (st ++ [c]) k = opn st k ++ [c] := by
      apply opn_bottom
      rcases h with h | h
      · exact .inl h
      · exact .inr (h k rfl)
    by_cases h0 : opn st k = []
    · rw [run_cons_nil r h0]
      show opn (st ++ [c]) k = opn st k ++ [c]
      exact hb
    · rw [run_cons_more r h0, Nat.add_comm 1]
      show opns (opn (st ++ [c]) k) (r.take _) = opns (opn st k) (r.take _) ++ [c]
      rw [hb]
      exact opns_bottom r (opn st k) c (.inl h0)
/-- A thing is closed, or it is all. -/
theorem opns_run : ∀ (ks st : List Int), opns st (ks.take (run st ks)) = [] ∨ run st ks = ks.length
  | [], _ => .inr rfl
  | k :: r, st => by
    by_cases h0 : opn st k = []
    · rw [run_cons_nil r h0]
      exact .inl h0
    · rw [run_cons_more r h0, Nat.add_comm 1, List.length_cons]
      rcases opns_run r (opn st k) with h | h
      · exact .inl h
      · exact .inr (by omega)
theorem opns_append (st a b : List Int) : opns st (a ++ b) = opns (opns st a) b := List.foldl_append

/-! ### a block's end -/
def is15 (k : Int) : Bool := k == 15
theorem clos15 : clos 15 = 0 := by decide
theorem block_run : ∀ (n : Nat) (b : List Int), b.length ≤ n →
    (upto is15 b < b.length ∧ run [15] b = upto is15 b + 1 ∧ opns [15] (b.take (run [15] b)) = []) ∨ (upto is15 b = b.length ∧ run [15] b = b.length ∧ opns [15] b ≠ [])
  | _, [], _ => .inr ⟨rfl, rfl, by decide⟩
  | 0, k :: r, h => by simp at h
  | n + 1, k :: r, h => by
    by_cases hk : k = 15
    · subst hk
      have h1 : opn [15] 15 = [] := by decide
      refine .inl ⟨?_, ?_, ?_⟩
      · rw [upto_cons]
        simp [is15]
      · rw [upto_cons, run_cons_nil r h1]
        simp [is15]
      · rw [run_cons_nil r h1]
        exact h1
    · have hp := run_pos [] k r
      have hl := run_le [] (k :: r)
      have hd : ((k :: r).drop (run [] (k :: r))).length = (k :: r).length - run [] (k :: r) := List.length_drop
      have hh : ∀ j, (k :: r).head? = some j → j ≠ 15 ∨ 0 < clos j := fun j e => by
        obtain rfl : k = j := by simpa using e
        exact .inl hk
      have hr : run [15] (k :: r) = run [] (k :: r) + run [15] ((k :: r).drop (run [] (k :: r))) := run_bottom (k :: r) [] 15 (.inr hh)
      have ho : opns [15] ((k :: r).take (run [] (k :: r))) = opns [] ((k :: r).take (run [] (k :: r))) ++ [15] := opns_bottom (k :: r) [] 15 (.inr hh)
      have hu : upto is15 (k :: r) = run [] (k :: r) + upto is15 ((k :: r).drop (run [] (k :: r))) := by
        rw [upto_cons, if_neg (by simpa [is15] using hk)]
      have ih := block_run n ((k :: r).drop (run [] (k :: r))) (by rw [List.length_cons] at h hd; omega)
      rcases opns_run (k :: r) [] with hc | hc
      · rw [hc, List.nil_append] at ho
        have hs : ∀ m, opns [15] ((k :: r).take (run [] (k :: r) + m)) = opns [15] (((k :: r).drop (run [] (k :: r))).take m) := fun m => by
          rw [List.take_add, opns_append, ho]
        rw [hu, hr]
        rcases ih with ⟨i1, i2, i3⟩ | ⟨i1, i2, i3⟩
        · refine .inl ⟨by omega, by omega, ?_⟩
          rw [hs]
          exact i3
        · refine .inr ⟨by omega, by omega, ?_⟩
          have := hs ((k :: r).drop (run [] (k :: r))).length
          rw [List.take_of_length_le (Nat.le_refl _), List.take_of_length_le (by omega)] at this
          rw [this]
          exact i3
      · have hdn : (k :: r).drop (run [] (k :: r)) = [] := List.drop_eq_nil_iff.2 (by omega)
        rw [hu, hr, hdn]
        refine .inr ⟨by rw [upto_nil]; omega, by show _ + 0 = _; omega, ?_⟩
        rw [hc, List.take_of_length_le (Nat.le_refl _)] at ho
        rw [ho]
        simp

end Go.Proofs.Ytgfbgfcakblpoaa
