/- Plain facts: the tokens of texts that are names of letters and signs. -/
import Derived.Test.YtkhgmobependiaaDoorSlGg
import Derived.Test.YtkhgmobependiaaDoorTkD
namespace Go.Proofs.YtkhgmobependiaaDoor.Sl
open Go.Proofs.YtkhgmobependiaaDoor.Tre
open Go Go.RowKit

theorem tksB_ints {l : List UInt8} (h : ∀ u ∈ l, u.toNat < 128 ∧ u.toNat ≠ 13 ∧ u.toNat ≠ 12 ∧ u.toNat ≠ 0) : tksB l = (toks Ref.nv (ints l)).map Ref.btOf := by
  unfold tksB
  rw [prep_ints l h]
theorem enc1_of {u : UInt8} (h : u.toNat < 128) : enc1 (u.toNat : Int) = [u] := by
  unfold enc1 Lib.encodeRune
  rw [fixC_yes (rightB_true (by omega)), Lib.encodeRuneZ_one (by omega) (by omega)]
  simp
theorem encs_of : ∀ l : List UInt8, (∀ u ∈ l, u.toNat < 128) → encs (ints l) = l
  | [], _ => rfl
  | u :: l, h => by
    have e : encs (ints (u :: l)) = enc1 (u.toNat : Int) ++ encs (ints l) := by simp [encs, ints]
    rw [e, enc1_of (h u (List.mem_cons_self ..)), encs_of l fun x hx => h x (List.mem_cons_of_mem _ hx)]
    rfl
theorem ints_app (a b : List UInt8) : ints (a ++ b) = ints a ++ ints b := by simp [ints]
/-- A token of bytes. -/
theorem btOf_bytes (k : Int) (l : List UInt8) (h : ∀ u ∈ l, u.toNat < 128) : Ref.btOf ⟨k, ints l, 0, false, 0⟩ = ⟨k, ⟨l.toArray⟩, 0, false, 0⟩ := by
  unfold Ref.btOf txtOf
  rw [encs_of l h]

variable (nv : List Int → Int)
theorem tk_name {c : Int} {l x : List Int} (h : (c :: l).all letter = true) (h1 : namePt (see x 0) = false) (h2 : see x 0 ≠ 92) (h3 : see x 0 ≠ 40) : toks nv (c :: l ++ x) = ⟨1, c :: l, 0, false, 0⟩ :: toks nv x := by
  have hn := name_run (name_stop h1 (escAt_no h2)) (c :: l) (all_letters h)
  have hc : letter c = true := by simp only [List.all_cons, Bool.and_eq_true] at h; exact h.1
  refine toks_step nv ?_ (by simp)
  rw [List.cons_append] at hn ⊢
  rw [step_start nv _ (letter_start hc), hn, if_neg h3]
theorem tk_fun {c : Int} {l x : List Int} (h : (c :: l).all letter = true) : toks nv (c :: l ++ 40 :: x) = ⟨20, c :: l, 0, false, 0⟩ :: toks nv x := by
  have hn := name_run (x := 40 :: x) (name_stop (by rw [see_zero]; decide) (escAt_no (by rw [see_zero]; decide))) (c :: l) (all_letters h)
  have hc : letter c = true := by simp only [List.all_cons, Bool.and_eq_true] at h; exact h.1
  refine toks_step nv ?_ (by simp)
  rw [List.cons_append] at hn ⊢
  rw [step_start nv _ (letter_start hc), hn, if_pos (by rw [see_zero])]
  rfl
theorem tk_hash {c : Int} {l x : List Int} (h : (c :: l).all letter = true) (h1 : namePt (see x 0) = false) (h2 : see x 0 ≠ 92) : toks nv (35 :: (c :: l ++ x)) = ⟨3, c :: l, 0, false, 0⟩ :: toks nv x := by
  have hn := name_run (name_stop h1 (escAt_no h2)) (c :: l) (all_letters h)
  have hc : letter c = true := by simp only [List.all_cons, Bool.and_eq_true] at h; exact h.1
  refine toks_step nv ?_ (by simp)
  rw [step_hash nv (by rw [List.cons_append, see_zero]; exact start_pt (letter_start hc)), hn]
/-- A sign that goes on with nothing. -/
theorem tk_mark {c : Int} {x : List Int} (h : c = 58 ∨ c = 91 ∨ c = 93 ∨ c = 41 ∨ c = 40 ∨ c = 44 ∨ c = 61 ∨ c = 126 ∨ c = 124 ∨ c = 94 ∨ c = 36 ∨ c = 42 ∨ c = 62) : toks nv (c :: x) = (if 0 < sign c then ⟨sign c, [], 0, false, 0⟩ else ⟨10, [], 0, false, c⟩) :: toks nv x := by
  refine toks_step nv ?_ (by simp)
  rw [step_plain nv (by omega) (isWhite_no (by omega)) (by omega) (by omega) (.inl (by omega)) (begNum_no (by rw [see_zero]; omega) (by rw [see_zero]; omega) (isDigit_no (by rw [see_zero]; omega)) (by rw [see_zero]; omega)) (.inl (by omega)) (begName_no (by rw [see_zero]; omega) (nameStart_no (by rw [see_zero]; omega)) (by rw [see_zero]; omega))]
  split <;> rfl
theorem tk_dot {x : List Int} (h : isDigit (see x 0) = false) : toks nv (46 :: x) = ⟨10, [], 0, false, 46⟩ :: toks nv x := by
  refine toks_step nv ?_ (by simp)
  have hb : begNum (46 :: x) = false := by
    unfold begNum
    rw [unsign_no (by rw [see_zero]; decide) (by rw [see_zero]; decide), see_zero, see_succ]
    show (isDigit 46 || (46 == (46 : Int) && isDigit (see x 0))) = false
    rw [h]
    decide
  rw [step_plain nv (by omega) (by decide) (by decide) (by decide) (.inl (by decide)) hb (.inl (by decide)) (begName_no (by rw [see_zero]; decide) (by rw [see_zero]; decide) (by rw [see_zero]; decide))]
  rfl
theorem tk_white {c : Int} {l x : List Int} (h : (c :: l).all isWhite = true) (hx : isWhite (see x 0) = false) : toks nv (c :: l ++ x) = ⟨9, [], 0, false, 0⟩ :: toks nv x := by
  have hc : isWhite c = true ∧ l.all isWhite = true := by simpa using h
  refine toks_step nv ?_ (by simp)
  rw [List.cons_append, step_white nv _ hc.1, drop_white x hx l hc.2]

end Go.Proofs.YtkhgmobependiaaDoor.Sl
