/- Plain facts, no program: the code points of bytes as a list function, how a text is prepared, and that the document's own way (looking ahead) gives the same list. -/
import Derived.Lib.DecodeN
import Derived.Shelf.Unicode.DecodeSlow
namespace Go.Proofs.Ytgfbgfcakblpoaa
open Go Go.Lib

/-- What stands at the head of l: the code point and its width. -/
def dec (l : List UInt8) : Nat × Nat := Lib.decodeGo ⟨l.toArray⟩

theorem get!_eq (l : List UInt8) (j : Nat) : (⟨l.toArray⟩ : ByteArray).get! j = l[j]?.getD 0 := by
  show l.toArray[j]! = _
  rw [getElem!_def]
  simp only [List.getElem?_toArray]
  cases l[j]? <;> rfl

theorem dec_eq {l : List UInt8} (h : l ≠ []) : dec l = decodeN l.length (l[0]?.getD 0).toNat (l[1]?.getD 0).toNat (l[2]?.getD 0).toNat (l[3]?.getD 0).toNat := by
  have hs : (⟨l.toArray⟩ : ByteArray).size = l.length := by simp [ByteArray.size]
  have h0 : l.length ≠ 0 := fun e => h (List.length_eq_zero_iff.1 e)
  unfold dec Lib.decodeGo
  rw [if_neg (by rw [hs]; exact h0), Lib.decode_at, hs]
  simp only [get!_eq, Nat.sub_zero, Nat.zero_add]

theorem decodeN_bounds (n b0 b1 b2 b3 : Nat) (hn : 1 ≤ n) : 1 ≤ (decodeN n b0 b1 b2 b3).2 ∧ (decodeN n b0 b1 b2 b3).2 ≤ n ∧ (decodeN n b0 b1 b2 b3).1 ≤ 1114111 := by
  unfold decodeN
  repeat' split
  all_goals (simp only; omega)

theorem dec_bounds {l : List UInt8} (h : l ≠ []) : 1 ≤ (dec l).2 ∧ (dec l).2 ≤ l.length ∧ (dec l).1 ≤ 1114111 := by
  rw [dec_eq h]
  exact decodeN_bounds _ _ _ _ _ (List.length_pos_iff.2 h)

def ptsF : Nat → List UInt8 → List Nat
  | 0, _ => []
  | f + 1, l => if l = [] then [] else (dec l).1 :: ptsF f (l.drop (dec l).2)

/-- The code points of l. -/
def pts (l : List UInt8) : List Nat := ptsF l.length l

theorem ptsF_more : ∀ (f g : Nat) (l : List UInt8), l.length ≤ f → l.length ≤ g → ptsF f l = ptsF g l
  | 0, 0, _, _, _ => rfl
  | 0, g + 1, l, h, _ => by
    have : l = [] := List.length_eq_zero_iff.1 (by omega)
    subst this; simp [ptsF]
  | f + 1, 0, l, _, h => by
    have : l = [] := List.length_eq_zero_iff.1 (by omega)
    subst this; simp [ptsF]
  | f + 1, g + 1, l, h1, h2 => by
    unfold ptsF
    by_cases e : l = []
    · simp [e]
    · have := dec_bounds e
      rw [if_neg e, if_neg e, ptsF_more f g _ (by simp; omega) (by simp; omega)]

@[simp] theorem pts_nil : pts [] = [] := rfl
theorem pts_cons {l : List UInt8} (h : l ≠ []) : pts l = (dec l).1 :: pts (l.drop (dec l).2) := by
  have hp := List.length_pos_iff.2 h
  obtain ⟨f, hf⟩ : ∃ f, l.length = f + 1 := ⟨l.length - 1, by omega⟩
  have := dec_bounds h
  unfold pts
  rw [hf]
  conv => lhs; unfold ptsF
  rw [if_neg h, ptsF_more f _ _ (by simp; omega) (Nat.le_refl _)]

theorem pts_len : ∀ (f : Nat) (l : List UInt8), l.length ≤ f → (pts l).length ≤ l.length
  | 0, l, h => by
    have : l = [] := List.length_eq_zero_iff.1 (by omega)
    subst this; simp
  | f + 1, l, h => by
    by_cases e : l = []
    · simp [e]
    · have hb := dec_bounds e
      rw [pts_cons e]
      have := pts_len f (l.drop (dec l).2) (by simp; omega)
      simp at this ⊢
      omega
theorem pts_length_le (l : List UInt8) : (pts l).length ≤ l.length := pts_len _ l (Nat.le_refl _)

theorem pts_le : ∀ (f : Nat) (l : List UInt8), l.length ≤ f → ∀ p ∈ pts l, p ≤ 1114111
  | 0, l, h => by
    have : l = [] := List.length_eq_zero_iff.1 (by omega)
    subst this; simp
  | f + 1, l, h => by
    by_cases e : l = []
    · simp [e]
    · have hb := dec_bounds e
      rw [pts_cons e]
      intro p hp
      rcases List.mem_cons.1 hp with rfl | hp
      · omega
      · exact pts_le f (l.drop (dec l).2) (by simp; omega) p hp

/-! ### Prepared -/
/-- What stands for one point. -/
def repl (p : Int) : Int := if p = 13 ∨ p = 12 then 10 else if p = 0 then 65533 else p
/-- Was the last one a 13? -/
def cr (l : List Int) : Bool := l.getLast? == some 13
/-- The points prepared, as they come. -/
def prepFrom : Bool → List Int → List Int
  | _, [] => []
  | c, p :: t => if c = true ∧ p = 10 then prepFrom (p == 13) t else repl p :: prepFrom (p == 13) t
def prep (l : List Int) : List Int := prepFrom false l

theorem prepFrom_snoc (p : Int) : ∀ (l : List Int) (c : Bool), prepFrom c (l ++ [p]) = prepFrom c l ++ (if (if l = [] then c else cr l) = true ∧ p = 10 then [] else [repl p])
  | [], c => by
    by_cases h : c = true ∧ p = 10 <;> simp [prepFrom, h]
  | q :: t, c => by
    have ih := prepFrom_snoc p t (q == 13)
    have hc : (if t = [] then (q == 13) else cr t) = cr (q :: t) := by
      cases t with
      | nil => simp [cr]
      | cons a b => simp [cr, List.getLast?_cons_cons]
    rw [hc] at ih
    simp only [List.cons_append, prepFrom, ih]
    by_cases h : c = true ∧ q = 10 <;> simp [h]

theorem prep_hit (pre : List Int) {x : Int} (h : cr pre = true ∧ x = 10) : prep (pre ++ [x]) = prep pre := by
  unfold prep
  rw [prepFrom_snoc]
  have hn : pre ≠ [] := fun e => by rw [e] at h; simp [cr] at h
  simp [hn, h]
theorem prep_miss (pre : List Int) {x : Int} (h : ¬ (cr pre = true ∧ x = 10)) : prep (pre ++ [x]) = prep pre ++ [repl x] := by
  unfold prep
  rw [prepFrom_snoc]
  by_cases hn : pre = []
  · simp [hn]
  · simp only [hn, if_false]
    rw [if_neg h]
@[simp] theorem cr_snoc (pre : List Int) (x : Int) : cr (pre ++ [x]) = (x == 13) := by
  rw [Bool.eq_iff_iff]
  simp [cr]
theorem prepFrom_len : ∀ (l : List Int) (c : Bool), (prepFrom c l).length ≤ l.length
  | [], c => by simp [prepFrom]
  | p :: t, c => by
    have := prepFrom_len t (p == 13)
    simp only [prepFrom]
    split <;> simp <;> omega
theorem prep_length_le (l : List Int) : (prep l).length ≤ l.length := prepFrom_len l false

/-- The code points of l, as integers. -/
def ipts (l : List UInt8) : List Int := (pts l).map Int.ofNat
theorem ipts_length_le (l : List UInt8) : (ipts l).length ≤ l.length := by unfold ipts; rw [List.length_map]; exact pts_length_le l
theorem ipts_nil : ipts [] = [] := rfl
theorem ipts_cons {l : List UInt8} (h : l ≠ []) : ipts l = ((dec l).1 : Int) :: ipts (l.drop (dec l).2) := by unfold ipts; rw [pts_cons h]; rfl

end Go.Proofs.Ytgfbgfcakblpoaa
