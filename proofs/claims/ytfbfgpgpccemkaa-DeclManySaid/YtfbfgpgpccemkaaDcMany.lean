/- Declarations of pieces of text, each closed by a semicolon: the lists' own fact of DeclMany. No program in this text. -/
import Derived.Test.YtfbfgpgpccemkaaDcAlive
import Derived.Test.YtfbfgpgpccemkaaDcApp
import Derived.Test.YtfbfgpgpccemkaaTkD
import Derived.Lib.ItoaNum
namespace Go.Proofs.Ytfbfgpgpccemkaa.Dc

/-- A byte that leaves nothing open and is kept as it is. -/
def nice (u : UInt8) : Bool := decide (u.toNat < 128) && u != 13 && u != 12 && u != 0 && u != 34 && u != 39 && u != 47 && u != 92
theorem nice_parts {u : UInt8} (h : nice u = true) : (u.toNat < 128 ∧ u.toNat ≠ 13 ∧ u.toNat ≠ 12 ∧ u.toNat ≠ 0) ∧ (u.toNat ≠ 34 ∧ u.toNat ≠ 39 ∧ u.toNat ≠ 47 ∧ u.toNat ≠ 92) := by
  have ne : ∀ v : UInt8, u ≠ v → u.toNat ≠ v.toNat := fun v h e => h (UInt8.toNat_inj.1 e)
  simp only [nice, Bool.and_eq_true, decide_eq_true_eq, bne_iff_ne] at h
  obtain ⟨⟨⟨⟨⟨⟨⟨h0, h1⟩, h2⟩, h3⟩, h4⟩, h5⟩, h6⟩, h7⟩ := h
  exact ⟨⟨h0, ne 13 h1, ne 12 h2, ne 0 h3⟩, ne 34 h4, ne 39 h5, ne 47 h6, ne 92 h7⟩
theorem tksB_nice {l : List UInt8} (h : ∀ u ∈ l, nice u = true) : tksB l = (toks Ref.nv (ints l)).map Ref.btOf := by
  unfold tksB
  rw [prep_ints l fun u hu => (nice_parts (h u hu)).1]
theorem ints_append (a b : List UInt8) : ints (a ++ b) = ints a ++ ints b := by simp [ints]
/-- Behind a semicolon the text is read anew. -/
theorem tksB_semi {p r : List UInt8} (hp : ∀ u ∈ p, nice u = true) (hr : ∀ u ∈ r, nice u = true) : tksB (p ++ 59 :: r) = tksB (p ++ [59]) ++ tksB r := by
  have h59 : nice 59 = true := by decide
  have hP : Plainly (ints p) := fun c hc => by
    obtain ⟨u, hu, rfl⟩ := List.mem_map.1 hc
    have := (nice_parts (hp u hu)).2
    omega
  have n1 : ∀ u ∈ p ++ 59 :: r, nice u = true := fun u hu => by
    rcases List.mem_append.1 hu with hu | hu
    · exact hp u hu
    · rcases List.mem_cons.1 hu with rfl | hu
      · exact h59
      · exact hr u hu
  have n2 : ∀ u ∈ p ++ [59], nice u = true := fun u hu => by
    rcases List.mem_append.1 hu with hu | hu
    · exact hp u hu
    · obtain rfl : u = 59 := by simpa using hu
      exact h59
  rw [tksB_nice n1, tksB_nice n2, tksB_nice hr, ints_append, ints_append, show ints (59 :: r) = 59 :: ints r from rfl, show ints [59] = 59 :: [] from rfl,
    toks_ahead Ref.nv (.inr rfl) _ _ (ints p) (Nat.le_refl _) hP, toks_ahead Ref.nv (.inr rfl) [] _ (ints p) (Nat.le_refl _) hP, toks_semi, toks_semi, toks_nil, ← List.map_append]
  simp

/-! ### the law's own pieces -/
def digs (i : Nat) : List UInt8 := if i < 10 then [UInt8.ofNat (48 + i)] else [UInt8.ofNat (48 + i / 10), UInt8.ofNat (48 + i % 10)]
theorem digs_eq {i : Nat} (h : i < 100) : Lib.decDigits i = digs i := by
  unfold digs
  split
  · rename_i h1; exact Lib.decDigits_one h1
  · rename_i h1; exact Lib.decDigits_two h1 h
def badP : List UInt8 := [32, 40, 97, 59, 98, 58, 99, 41, 32, 59, 32, 53, 32, 58, 32, 54, 59, 32, 120, 32, 121, 58, 32, 122, 59]
def goodP (i : Nat) (b : Bool) : List UInt8 := [32, 119] ++ digs i ++ [58, 32] ++ digs i ++ (if b then [32, 33, 32, 73, 77, 80, 79, 82, 84, 65, 78, 84] else []) ++ [32, 59]
def qMark : List Bt := [⟨1, ⟨#[113]⟩, 0, false, 0⟩, ⟨11, ⟨#[]⟩, 0, false, 0⟩]
/-- What is asked of a piece. -/
def okP (P : List UInt8) : Bool := P.all nice && decide (P = P.dropLast ++ [59]) && decide ((decls (tksB P ++ qMark)).length = (decls (tksB P)).length + 1)
theorem okP_app {P R : List UInt8} (h : okP P = true) (hr : ∀ u ∈ R, nice u = true) : decls (tksB (P ++ R)) = decls (tksB P) ++ decls (tksB R) := by
  simp only [okP, Bool.and_eq_true, List.all_eq_true, decide_eq_true_eq] at h
  obtain ⟨⟨h1, h2⟩, h3⟩ := h
  have hd : ∀ u ∈ P.dropLast, nice u = true := fun u hu => h1 u ((List.dropLast_sublist _).mem hu)
  have e : P ++ R = P.dropLast ++ 59 :: R := by
    conv => lhs; rw [h2]
    simp
  rw [e, tksB_semi hd hr, ← h2]
  exact decls_app rfl rfl _ (tksB P) (Nat.le_refl _) h3 (tksB R)
theorem okP_nice {P : List UInt8} (h : okP P = true) : ∀ u ∈ P, nice u = true := by
  simp only [okP, Bool.and_eq_true, List.all_eq_true] at h
  exact h.1.1
def wName (i : Nat) : List UInt8 := 119 :: digs i
/-- What a declaration of the law is to tell. -/
def tells (d : Dc) (i : Nat) (b : Bool) : Bool := decide (d.name.data.toList = wName i) && d.imp == b && decide (d.value.map Bt.n = [1000 * (i : Int)])
def okOne (i : Nat) (b : Bool) : Bool := okP (goodP i b) && (match decls (tksB (goodP i b)) with | [d] => tells d i b | _ => false)
theorem bad_ok : okP badP = true ∧ decls (tksB badP) = [] := by decide +kernel
theorem good_ok : ∀ i : Fin 30, ∀ b : Bool, okOne i b = true := by decide +kernel

/-! ### all of them -/
def pieceAt (bad imp : List Bool) (i : Nat) : List UInt8 := if (bad[i]?).getD false then badP else goodP i ((imp[i]?).getD false)
def declAt (bad imp : List Bool) (i : Nat) : List Dc := if (bad[i]?).getD false then [] else decls (tksB (goodP i ((imp[i]?).getD false)))
theorem piece_ok (bad imp : List Bool) {i : Nat} (h : i < 30) : okP (pieceAt bad imp i) = true ∧ decls (tksB (pieceAt bad imp i)) = declAt bad imp i := by
  unfold pieceAt declAt
  split
  · exact bad_ok
  · have := good_ok ⟨i, h⟩ ((imp[i]?).getD false)
    simp only [okOne, Bool.and_eq_true] at this
    exact ⟨this.1, rfl⟩
theorem text_nice (bad imp : List Bool) : ∀ l : List Nat, (∀ i ∈ l, i < 30) → ∀ u ∈ l.flatMap (pieceAt bad imp), nice u = true
  | l, h, u, hu => by
    obtain ⟨i, hi, hu⟩ := List.mem_flatMap.1 hu
    exact okP_nice (piece_ok bad imp (h i hi)).1 u hu
theorem tksB_none : tksB [] = [] := by decide +kernel
/-- THE FACT: the declarations of all pieces are those of each, in order. -/
theorem decls_text (bad imp : List Bool) : ∀ l : List Nat, (∀ i ∈ l, i < 30) → decls (tksB (l.flatMap (pieceAt bad imp))) = l.flatMap (declAt bad imp)
  | [], _ => by rw [List.flatMap_nil, List.flatMap_nil, tksB_none, decls_nil]
  | i :: l, h => by
    obtain ⟨h1, h2⟩ := piece_ok bad imp (h i (List.mem_cons_self ..))
    have hl : ∀ j ∈ l, j < 30 := fun j hj => h j (List.mem_cons_of_mem _ hj)
    rw [List.flatMap_cons, List.flatMap_cons, okP_app h1 (text_nice bad imp l hl), h2, decls_text bad imp l hl]
theorem declAt_one (bad imp : List Bool) {i : Nat} (h : i < 30) (hb : (bad[i]?).getD false = false) : ∃ d, declAt bad imp i = [d] ∧ d.name.data.toList = wName i ∧ d.imp = (imp[i]?).getD false ∧ d.value.map Bt.n = [1000 * (i : Int)] := by
  have := good_ok ⟨i, h⟩ ((imp[i]?).getD false)
  simp only [okOne, Bool.and_eq_true] at this
  unfold declAt
  rw [if_neg (by simp [hb])]
  have h2 := this.2
  split at h2
  · rename_i d hd
    simp only [tells, Bool.and_eq_true, decide_eq_true_eq, beq_iff_eq] at h2
    exact ⟨d, hd, h2.1.1, h2.1.2, h2.2⟩
  · cases h2
theorem declAt_none (bad imp : List Bool) {i : Nat} (hb : (bad[i]?).getD false = true) : declAt bad imp i = [] := by
  unfold declAt
  rw [if_pos hb]
/-- The text of the first k pieces, and their declarations. -/
def textTo (bad imp : List Bool) (k : Nat) : List UInt8 := (List.range k).flatMap (pieceAt bad imp)
def declsTo (bad imp : List Bool) (k : Nat) : List Dc := (List.range k).flatMap (declAt bad imp)
theorem textTo_succ (bad imp : List Bool) (k : Nat) : textTo bad imp (k + 1) = textTo bad imp k ++ pieceAt bad imp k := by
  unfold textTo
  rw [List.range_succ, List.flatMap_append]
  simp
theorem declsTo_succ (bad imp : List Bool) (k : Nat) : declsTo bad imp (k + 1) = declsTo bad imp k ++ declAt bad imp k := by
  unfold declsTo
  rw [List.range_succ, List.flatMap_append]
  simp
theorem declsTo_prefix (bad imp : List Bool) {k n : Nat} (h : k ≤ n) : ∃ r, declsTo bad imp n = declsTo bad imp k ++ r := by
  induction n with
  | zero =>
    obtain rfl : k = 0 := by omega
    exact ⟨[], by simp⟩
  | succ n ih =>
    by_cases e : k = n + 1
    · subst e
      exact ⟨[], by simp⟩
    · obtain ⟨r, hr⟩ := ih (by omega)
      exact ⟨r ++ declAt bad imp n, by rw [declsTo_succ, hr, List.append_assoc]⟩
theorem decls_all (bad imp : List Bool) {n : Nat} (h : n ≤ 30) : decls (tksB (textTo bad imp n)) = declsTo bad imp n :=
  decls_text bad imp (List.range n) (fun i hi => by have := List.mem_range.1 hi; omega)
theorem digs_len (i : Nat) : (digs i).length ≤ 2 := by
  unfold digs
  split <;> simp
theorem piece_len (bad imp : List Bool) (i : Nat) : (pieceAt bad imp i).length ≤ 60 := by
  have := digs_len i
  unfold pieceAt
  split
  · decide
  · unfold goodP
    split <;> simp <;> omega
theorem text_len (bad imp : List Bool) : ∀ k, (textTo bad imp k).length ≤ 60 * k
  | 0 => by simp [textTo]
  | k + 1 => by
    have h1 := text_len bad imp k
    have h2 := piece_len bad imp k
    rw [textTo_succ, List.length_append]
    omega

end Go.Proofs.Ytfbfgpgpccemkaa.Dc
