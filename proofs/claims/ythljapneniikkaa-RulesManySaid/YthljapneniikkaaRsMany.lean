/- Rules of pieces of text, each closed: the lists' own fact of RulesMany. No program in this text. -/
import Derived.Test.YthljapneniikkaaRsAlive
import Derived.Test.YthljapneniikkaaBsG
import Derived.Test.YthljapneniikkaaTkD
import Derived.Test.YthljapneniikkaaRsAhead
import Derived.Lib.ItoaNum
namespace Go.Proofs.Ythljapneniikkaa.Rm

/-- A byte that is kept as it is. -/
def kept (u : UInt8) : Bool := decide (u.toNat < 128) && u != 13 && u != 12 && u != 0
theorem kept_parts {u : UInt8} (h : kept u = true) : u.toNat < 128 ∧ u.toNat ≠ 13 ∧ u.toNat ≠ 12 ∧ u.toNat ≠ 0 := by
  have ne : ∀ v : UInt8, u ≠ v → u.toNat ≠ v.toNat := fun v h e => h (UInt8.toNat_inj.1 e)
  simp only [kept, Bool.and_eq_true, decide_eq_true_eq, bne_iff_ne] at h
  obtain ⟨⟨⟨h0, h1⟩, h2⟩, h3⟩ := h
  exact ⟨h0, ne 13 h1, ne 12 h2, ne 0 h3⟩
theorem tksB_kept {l : List UInt8} (h : ∀ u ∈ l, kept u = true) : tksB l = (toks Ref.nv (ints l)).map Ref.btOf := by
  unfold tksB
  rw [prep_ints l fun u hu => kept_parts (h u hu)]
theorem ints_append (a b : List UInt8) : ints (a ++ b) = ints a ++ ints b := by simp [ints]
def plainB (u : UInt8) : Bool := u != 34 && u != 39 && u != 47 && u != 92
theorem plain_of {l : List UInt8} (h : l.all plainB = true) : Plainly (ints l) := fun c hc => by
  obtain ⟨u, hu, rfl⟩ := List.mem_map.1 hc
  have h2 := List.all_eq_true.1 h u hu
  have ne : ∀ v : UInt8, u ≠ v → u.toNat ≠ v.toNat := fun v h e => h (UInt8.toNat_inj.1 e)
  simp only [plainB, Bool.and_eq_true, bne_iff_ne] at h2
  obtain ⟨⟨⟨h4, h5⟩, h6⟩, h7⟩ := h2
  have a := ne 34 h4
  have b := ne 39 h5
  have c := ne 47 h6
  have d := ne 92 h7
  simp only [show (34 : UInt8).toNat = 34 from rfl, show (39 : UInt8).toNat = 39 from rfl, show (47 : UInt8).toNat = 47 from rfl, show (92 : UInt8).toNat = 92 from rfl] at a b c d
  omega

/-! ### the law's own pieces -/
def digs (i : Nat) : List UInt8 := if i < 10 then [UInt8.ofNat (48 + i)] else [UInt8.ofNat (48 + i / 10), UInt8.ofNat (48 + i % 10)]
theorem digs_eq {i : Nat} (h : i < 100) : Lib.decDigits i = digs i := by
  unfold digs
  split
  · rename_i h1; exact Lib.decDigits_one h1
  · rename_i h1; exact Lib.decDigits_two h1 h
def headA : List UInt8 := [64, 97, 32, 40, 59, 41, 32]
def atA : List UInt8 := [64, 97, 32, 40, 59, 41, 32, 34, 123, 34, 32, 59]
def atB : List UInt8 := [64, 98, 32, 99, 32, 123, 32, 100, 32, 123, 32, 101, 32, 58, 32, 102, 32, 125, 32, 125]
def ruleP (i : Nat) : List UInt8 := 107 :: (digs i ++ [123, 32, 120, 32, 58, 32, 121, 32, 125])
/-- Behind a piece the text is read anew. -/
def Apart (P : List UInt8) : Prop := ∀ R : List UInt8, toks Ref.nv (ints P ++ ints R) = toks Ref.nv (ints P) ++ toks Ref.nv (ints R)
theorem apart_brace {p : List UInt8} (h : p.all plainB = true) : Apart (p ++ [125]) := fun R => by
  rw [ints_append, List.append_assoc, show ints [125] ++ ints R = 125 :: ints R from rfl, show ints [125] = 125 :: [] from rfl,
    toks_ahead Ref.nv (.inl rfl) _ _ (ints p) (Nat.le_refl _) (plain_of h), toks_ahead Ref.nv (.inl rfl) [] _ (ints p) (Nat.le_refl _) (plain_of h), toks_brace, toks_brace, toks_nil, List.append_assoc]
  rfl
theorem apart_at : Apart atA := fun R => by
  have h1 : Plainly (ints headA) := plain_of (by decide)
  have h2 : Plainly (ints [32]) := plain_of (by decide)
  have e : ∀ y, toks Ref.nv (ints headA ++ 34 :: 123 :: 34 :: (ints [32] ++ 59 :: y)) = toks Ref.nv (ints headA) ++ ⟨4, [123], 0, false, 0⟩ :: (toks Ref.nv (ints [32]) ++ ⟨12, [], 0, false, 0⟩ :: toks Ref.nv y) := fun y => by
    rw [toks_ahead Ref.nv (.inr rfl) _ _ (ints headA) (Nat.le_refl _) h1, toks_str, Go.Proofs.Ythljapneniikkaa.toks_ahead Ref.nv (.inr rfl) _ _ (ints [32]) (Nat.le_refl _) h2, toks_semi]
  have e1 : ints atA ++ ints R = ints headA ++ 34 :: 123 :: 34 :: (ints [32] ++ 59 :: ints R) := rfl
  have e2 : ints atA = ints headA ++ 34 :: 123 :: 34 :: (ints [32] ++ 59 :: []) := rfl
  rw [e1, e, e2, e, toks_nil]
  simp
def qMark : List Bt := [⟨1, ⟨#[113]⟩, 0, false, 0⟩, ⟨14, ⟨#[]⟩, 0, false, 0⟩, ⟨15, ⟨#[]⟩, 0, false, 0⟩]
/-- What is asked of a piece. -/
def okP (P : List UInt8) : Bool := P.all kept && decide ((rules (tksB P ++ qMark)).length = (rules (tksB P)).length + 1) && (match (rules (tksB P ++ qMark)).getLast? with | some r => decide (r.1.length = 1) | none => true)
theorem okP_kept {P : List UInt8} (h : okP P = true) : ∀ u ∈ P, kept u = true := by
  simp only [okP, Bool.and_eq_true, List.all_eq_true] at h
  exact h.1.1
theorem okP_own {P : List UInt8} (h : okP P = true) : ownMark qMark (tksB P) := by
  simp only [okP, Bool.and_eq_true, decide_eq_true_eq] at h
  refine ⟨h.1.2, fun r hr => ?_⟩
  have h2 := h.2
  rw [hr] at h2
  simpa using h2
theorem okP_app {P R : List UInt8} (h : okP P = true) (ha : Apart P) (hr : ∀ u ∈ R, kept u = true) : rules (tksB (P ++ R)) = rules (tksB P) ++ rules (tksB R) := by
  have hp := okP_kept h
  have hpr : ∀ u ∈ P ++ R, kept u = true := fun u hu => by
    rcases List.mem_append.1 hu with hu | hu
    · exact hp u hu
    · exact hr u hu
  have e : tksB (P ++ R) = tksB P ++ tksB R := by
    rw [tksB_kept hpr, tksB_kept hp, tksB_kept hr, ints_append, ha R, List.map_append]
  rw [e]
  exact rules_app rfl rfl rfl _ (tksB P) (Nat.le_refl _) (okP_own h) (tksB R)
def kName (i : Nat) : List UInt8 := 107 :: digs i
/-- What a rule of the law is to tell. -/
def tells (r : Rw) (i : Nat) : Bool := decide (r.1.map (fun t => t.text.data.toList) = [kName i]) && decide (r.2.length = 7)
def okOne (i : Nat) : Bool := okP (ruleP i) && (match rules (tksB (ruleP i)) with | [r] => tells r i | _ => false) && (107 :: (digs i ++ [123, 32, 120, 32, 58, 32, 121, 32])).all plainB
theorem ats_ok : okP atA = true ∧ rules (tksB atA) = [] ∧ okP atB = true ∧ rules (tksB atB) = [] := by decide +kernel
theorem good_ok : ∀ i : Fin 30, okOne i = true := by decide +kernel

/-! ### all of them -/
def pieceAt (w : List Nat) (i : Nat) : List UInt8 := if (w[i]?).getD 0 = 0 then atA else if (w[i]?).getD 0 = 1 then atB else ruleP i
def rulesAt (w : List Nat) (i : Nat) : List Rw := if (w[i]?).getD 0 < 2 then [] else rules (tksB (ruleP i))
theorem piece_ok (w : List Nat) {i : Nat} (h : i < 30) : okP (pieceAt w i) = true ∧ Apart (pieceAt w i) ∧ rules (tksB (pieceAt w i)) = rulesAt w i := by
  unfold pieceAt rulesAt
  obtain ⟨a1, a2, a3, a4⟩ := ats_ok
  by_cases h0 : (w[i]?).getD 0 = 0
  · rw [if_pos h0, if_pos (by omega)]
    exact ⟨a1, apart_at, a2⟩
  · rw [if_neg h0]
    by_cases h1 : (w[i]?).getD 0 = 1
    · rw [if_pos h1, if_pos (by omega)]
      exact ⟨a3, apart_brace (p := atB.dropLast) (by decide), a4⟩
    · rw [if_neg h1, if_neg (by omega)]
      have hg := good_ok ⟨i, h⟩
      simp only [okOne, Bool.and_eq_true] at hg
      refine ⟨hg.1.1, ?_, rfl⟩
      have := apart_brace hg.2
      have e : ruleP i = 107 :: (digs i ++ [123, 32, 120, 32, 58, 32, 121, 32]) ++ [125] := by simp [ruleP]
      rw [e]
      exact this
theorem text_kept (w : List Nat) (l : List Nat) (h : ∀ i ∈ l, i < 30) : ∀ u ∈ l.flatMap (pieceAt w), kept u = true := fun u hu => by
  obtain ⟨i, hi, hu⟩ := List.mem_flatMap.1 hu
  exact okP_kept (piece_ok w (h i hi)).1 u hu
theorem tksB_none : tksB [] = [] := by decide +kernel
/-- THE FACT: the rules of all pieces are those of each, in order. -/
theorem rules_text (w : List Nat) : ∀ l : List Nat, (∀ i ∈ l, i < 30) → rules (tksB (l.flatMap (pieceAt w))) = l.flatMap (rulesAt w)
  | [], _ => by rw [List.flatMap_nil, List.flatMap_nil, tksB_none, rules_nil]
  | i :: l, h => by
    obtain ⟨h1, h2, h3⟩ := piece_ok w (h i (List.mem_cons_self ..))
    have hl : ∀ j ∈ l, j < 30 := fun j hj => h j (List.mem_cons_of_mem _ hj)
    rw [List.flatMap_cons, List.flatMap_cons, okP_app h1 h2 (text_kept w l hl), h3, rules_text w l hl]
theorem rulesAt_one (w : List Nat) {i : Nat} (h : i < 30) (hb : ¬ (w[i]?).getD 0 < 2) : ∃ r, rulesAt w i = [r] ∧ r.1.map (fun t => t.text.data.toList) = [kName i] ∧ r.2.length = 7 := by
  have hg := good_ok ⟨i, h⟩
  simp only [okOne, Bool.and_eq_true] at hg
  unfold rulesAt
  rw [if_neg hb]
  have h2 := hg.1.2
  split at h2
  · rename_i r hr
    simp only [tells, Bool.and_eq_true, decide_eq_true_eq] at h2
    exact ⟨r, hr, h2.1, h2.2⟩
  · cases h2
theorem rulesAt_none (w : List Nat) {i : Nat} (hb : (w[i]?).getD 0 < 2) : rulesAt w i = [] := by
  unfold rulesAt
  rw [if_pos hb]
/-- The text of the first k pieces, and their rules. -/
def textTo (w : List Nat) (k : Nat) : List UInt8 := (List.range k).flatMap (pieceAt w)
def rulesTo (w : List Nat) (k : Nat) : List Rw := (List.range k).flatMap (rulesAt w)
theorem textTo_succ (w : List Nat) (k : Nat) : textTo w (k + 1) = textTo w k ++ pieceAt w k := by
  unfold textTo
  rw [List.range_succ, List.flatMap_append]
  simp
theorem rulesTo_succ (w : List Nat) (k : Nat) : rulesTo w (k + 1) = rulesTo w k ++ rulesAt w k := by
  unfold rulesTo
  rw [List.range_succ, List.flatMap_append]
  simp
theorem rulesTo_prefix (w : List Nat) {k n : Nat} (h : k ≤ n) : ∃ r, rulesTo w n = rulesTo w k ++ r := by
  induction n with
  | zero =>
    obtain rfl : k = 0 := by omega
    exact ⟨[], by simp⟩
  | succ n ih =>
    by_cases e : k = n + 1
    · subst e
      exact ⟨[], by simp⟩
    · obtain ⟨r, hr⟩ := ih (by omega)
      exact ⟨r ++ rulesAt w n, by rw [rulesTo_succ, hr, List.append_assoc]⟩
theorem rules_all (w : List Nat) {n : Nat} (h : n ≤ 30) : rules (tksB (textTo w n)) = rulesTo w n :=
  rules_text w (List.range n) (fun i hi => by have := List.mem_range.1 hi; omega)
theorem digs_len (i : Nat) : (digs i).length ≤ 2 := by
  unfold digs
  split <;> simp
theorem piece_len (w : List Nat) (i : Nat) : (pieceAt w i).length ≤ 60 := by
  have := digs_len i
  unfold pieceAt
  split
  · decide
  · split
    · decide
    · unfold ruleP
      simp
      omega
theorem text_len (w : List Nat) : ∀ k, (textTo w k).length ≤ 60 * k
  | 0 => by simp [textTo]
  | k + 1 => by
    have h1 := text_len w k
    have h2 := piece_len w k
    rw [textTo_succ, List.length_append]
    omega
theorem rulesTo_len (w : List Nat) : ∀ j, j ≤ 30 → (rulesTo w j).length ≤ j
  | 0, _ => by simp [rulesTo]
  | j + 1, hj => by
    have := rulesTo_len w j (by omega)
    rw [rulesTo_succ, List.length_append]
    by_cases hb : (w[j]?).getD 0 < 2
    · rw [rulesAt_none w hb]
      simp
      omega
    · obtain ⟨r, hr, _⟩ := rulesAt_one w (i := j) (by omega) hb
      rw [hr]
      simp
      omega

end Go.Proofs.Ythljapneniikkaa.Rm
