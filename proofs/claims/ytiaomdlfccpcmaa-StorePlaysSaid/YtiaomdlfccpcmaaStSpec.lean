/- Chapter 19 in plain words: structs by their numbers: the style of each, and how often it is held. -/
import Derived.WalkKit
namespace Go.Proofs.Ytiaomdlfccpcmaa.Sto
open Go

abbrev He := (Nat → Int) × Int
abbrev zeroH : He := (fun _ => 0, 0)
/-- Struct i, where there is one that is held. -/
def atV (l : List He) (i : Nat) : Option He := match l[i]? with
  | some h => if 0 < h.2 then some h else none
  | none => none
def lookV (f : Nat → Option He) (i : Int) : Option He := if i < 0 then none else f i.toNat
def newL (l : List He) (s : Nat → Int) : List He := l ++ [(s, 1)]
def addL (l : List He) (i d : Int) : List He := match lookV (atV l) i with
  | some h => l.set i.toNat (h.1, h.2 + d)
  | none => l
def addR (l : List He) (i : Int) : Int := match lookV (atV l) i with
  | some _ => 0
  | none => 6
def getV (l : List He) (i : Int) : (Nat → Int) × Int := match lookV (atV l) i with
  | some h => (h.1, 0)
  | none => (fun _ => 0, 6)
def cntV (l : List He) (i : Int) : Int := match lookV (atV l) i with
  | some h => h.2
  | none => 0
def liveN (l : List He) : Nat := l.countP (fun h => decide (0 < h.2))
def updV (f : Nat → Option He) (i : Nat) (o : Option He) : Nat → Option He := fun k => if k = i then o else f k
/-- At most n structs, held at most n times each. -/
structure Few (n : Nat) (l : List He) : Prop where
  len : l.length ≤ n
  low : ∀ h ∈ l, 0 ≤ h.2
  high : ∀ h ∈ l, h.2 ≤ n

theorem atV_some {l : List He} {i : Nat} {h : He} (e : atV l i = some h) : l[i]? = some h ∧ 0 < h.2 := by
  unfold atV at e
  split at e
  · rename_i x hx
    split at e
    · cases e; exact ⟨hx, by assumption⟩
    · cases e
  · cases e
theorem atV_none {l : List He} {i : Nat} (e : atV l i = none) {h : He} (hh : l[i]? = some h) : h.2 ≤ 0 := by
  unfold atV at e
  rw [hh] at e
  simp only at e
  split at e
  · cases e
  · omega
theorem atV_of {l : List He} {i : Nat} {h : He} (e : l[i]? = some h) (h0 : 0 < h.2) : atV l i = some h := by
  unfold atV
  rw [e]
  exact if_pos h0
theorem atV_off {l : List He} {i : Nat} {h : He} (e : l[i]? = some h) (h0 : h.2 ≤ 0) : atV l i = none := by
  unfold atV
  rw [e]
  exact if_neg (by omega)
theorem atV_out {l : List He} {i : Nat} (h : l.length ≤ i) : atV l i = none := by
  unfold atV
  rw [List.getElem?_eq_none h]
theorem lookV_neg {f : Nat → Option He} {i : Int} (h : i < 0) : lookV f i = none := if_pos h
theorem lookV_nat {f : Nat → Option He} {i : Int} (h : 0 ≤ i) : lookV f i = f i.toNat := if_neg (by omega)
theorem lookV_cast (f : Nat → Option He) (i : Nat) : lookV f (i : Int) = f i := by rw [lookV_nat (by omega)]; rfl
theorem lookV_some {f : Nat → Option He} {i : Int} {h : He} (e : lookV f i = some h) : ∃ k : Nat, i = k ∧ f k = some h := by
  by_cases h0 : i < 0
  · rw [lookV_neg h0] at e; cases e
  · rw [lookV_nat (by omega)] at e
    exact ⟨i.toNat, by omega, e⟩
theorem Few.nil (n : Nat) : Few n [] := ⟨Nat.zero_le _, (fun _ h => by cases h), (fun _ h => by cases h)⟩
theorem Few.mono {n m : Nat} {l : List He} (h : Few n l) (hm : n ≤ m) : Few m l := ⟨Nat.le_trans h.len hm, h.low, fun x hx => by have := h.high x hx; omega⟩
theorem Few.new {n : Nat} {l : List He} (h : Few n l) (s : Nat → Int) : Few (n + 1) (newL l s) := by
  refine ⟨by unfold newL; have := h.len; simp; omega, fun x hx => ?_, fun x hx => ?_⟩ <;> rcases List.mem_append.1 hx with hx | hx
  · exact h.low x hx
  · rw [List.mem_singleton.1 hx]; show (0 : Int) ≤ 1; decide
  · have := h.high x hx; omega
  · rw [List.mem_singleton.1 hx]; show (1 : Int) ≤ _; omega
theorem Few.at {n : Nat} {l : List He} (h : Few n l) {i : Nat} {x : He} (e : l[i]? = some x) : 0 ≤ x.2 ∧ x.2 ≤ n := ⟨h.low x (List.mem_of_getElem? e), h.high x (List.mem_of_getElem? e)⟩
theorem addL_at {l : List He} {i : Nat} {h : He} (e : atV l i = some h) (d : Int) : addL l i d = l.set i (h.1, h.2 + d) := by
  unfold addL
  rw [lookV_cast, e]
  simp
theorem addL_off {l : List He} {i d : Int} (e : lookV (atV l) i = none) : addL l i d = l := by
  unfold addL
  rw [e]
theorem Few.add {n : Nat} {l : List He} (h : Few n l) (i : Int) {d : Int} (hd : d = 1 ∨ d = -1) : Few (n + 1) (addL l i d) := by
  cases e : lookV (atV l) i with
  | none => rw [addL_off e]; exact h.mono (by omega)
  | some x =>
    obtain ⟨k, rfl, hk⟩ := lookV_some e
    obtain ⟨h1, h2⟩ := atV_some hk
    obtain ⟨h3, h4⟩ := h.at h1
    rw [addL_at hk]
    refine ⟨by have := h.len; simp; omega, fun y hy => ?_, fun y hy => ?_⟩ <;> rcases List.mem_or_eq_of_mem_set hy with hy | rfl
    · exact h.low y hy
    · show 0 ≤ x.2 + d; rcases hd with rfl | rfl <;> omega
    · have := h.high y hy; omega
    · show x.2 + d ≤ _; rcases hd with rfl | rfl <;> omega
/-! ### what a tree of structs is told -/
theorem at_new (l : List He) (s : Nat → Int) : atV (newL l s) = updV (atV l) l.length (some (s, 1)) := by
  funext k
  unfold updV
  split
  · rename_i h; subst h; exact atV_of (by simp [newL]) (by show (0 : Int) < 1; decide)
  · rename_i h
    by_cases hk : k < l.length
    · unfold atV newL; rw [List.getElem?_append_left hk]
    · rw [atV_out (by simp [newL]; omega), atV_out (by omega)]
theorem at_add {l : List He} {i : Nat} {h : He} (e : atV l i = some h) (d : Int) : atV (addL l i d) = updV (atV l) i (if 0 < h.2 + d then some (h.1, h.2 + d) else none) := by
  obtain ⟨h1, h2⟩ := atV_some e
  have hlt := (List.getElem?_eq_some_iff.1 h1).1
  rw [addL_at e]
  funext k
  unfold updV
  split
  · rename_i hk; subst hk
    have : (l.set k (h.1, h.2 + d))[k]? = some (h.1, h.2 + d) := by simp [hlt]
    unfold atV
    rw [this]
  · rename_i hk
    unfold atV
    rw [List.getElem?_set_ne (by omega)]
theorem live_nil : liveN [] = 0 := rfl
theorem live_new (l : List He) (s : Nat → Int) : liveN (newL l s) = liveN l + 1 := by
  unfold liveN newL
  rw [List.countP_append]
  rfl
theorem live_set : ∀ (l : List He) (i : Nat) (x y : He), l[i]? = some x → liveN (l.set i y) + (if 0 < x.2 then 1 else 0) = liveN l + (if 0 < y.2 then 1 else 0)
  | [], i, x, y, h => by simp at h
  | a :: l, 0, x, y, h => by
    simp at h; subst h
    simp only [List.set_cons_zero, liveN, List.countP_cons, decide_eq_true_eq]
    omega
  | a :: l, i + 1, x, y, h => by
    have := live_set l i x y (by simpa using h)
    simp only [List.set_cons_succ, liveN, List.countP_cons, decide_eq_true_eq] at this ⊢
    omega
theorem live_le (l : List He) : liveN l ≤ l.length := List.countP_le_length

/-! ### cells -/
abbrev styL (s : Nat → Int) : List Value := [.int .i64 (s 0), .int .i64 (s 1), .int .i64 (s 2), .int .i64 (s 3), .int .i64 (s 4), .int .i64 (s 5), .int .i64 (s 6), .int .i64 (s 7)]
abbrev sty (s : Nat → Int) : Value := .agg #[.int .i64 (s 0), .int .i64 (s 1), .int .i64 (s 2), .int .i64 (s 3), .int .i64 (s 4), .int .i64 (s 5), .int .i64 (s 6), .int .i64 (s 7)]
abbrev heL (h : He) : List Value := [.int .i64 (h.1 0), .int .i64 (h.1 1), .int .i64 (h.1 2), .int .i64 (h.1 3), .int .i64 (h.1 4), .int .i64 (h.1 5), .int .i64 (h.1 6), .int .i64 (h.1 7), .int .i64 h.2]
abbrev heV (h : He) : Value := .agg #[.int .i64 (h.1 0), .int .i64 (h.1 1), .int .i64 (h.1 2), .int .i64 (h.1 3), .int .i64 (h.1 4), .int .i64 (h.1 5), .int .i64 (h.1 6), .int .i64 (h.1 7), .int .i64 h.2]

end Go.Proofs.Ytiaomdlfccpcmaa.Sto
