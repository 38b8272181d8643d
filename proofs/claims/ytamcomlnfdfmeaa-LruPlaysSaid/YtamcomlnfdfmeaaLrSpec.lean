/- Chapter 18 in plain words: entries, the one that was asked for last first. -/
import Derived.WalkKit
namespace Go.Proofs.Ytamcomlnfdfmeaa.Lr
open Go

abbrev En := Int × Int
def keysV (l : List En) : List Int := l.map (·.1)
def outV (k : Int) (l : List En) : List En := l.filter (fun e => e.1 != k)
def ledV (l : List En) (k v : Int) : List En := (k, v) :: outV k l
def putL (s : Nat) (l : List En) (k v : Int) : List En := (ledV l k v).take s
def putR (s : Nat) (l : List En) (k v : Int) : Int × Bool := match (ledV l k v)[s]? with
  | some e => (e.1, true)
  | none => (0, false)
def hasV (l : List En) (k : Int) : Option En := l.find? (fun e => e.1 == k)
def getL (l : List En) (k : Int) : List En := match hasV l k with
  | some e => ledV l k e.2
  | none => l
def getR (l : List En) (k : Int) : Int × Bool := match hasV l k with
  | some e => (e.2, true)
  | none => (0, false)
/-- What a cache of the size s may have. -/
structure Good (s : Nat) (l : List En) : Prop where
  few : l.length ≤ s
  apart : (keysV l).Nodup

theorem keys_out (k : Int) (l : List En) : keysV (outV k l) = (keysV l).filter (fun x => x != k) := by
  unfold keysV outV
  rw [List.filter_map]
  rfl
theorem keys_led (l : List En) (k v : Int) : keysV (ledV l k v) = k :: (keysV l).filter (fun x => x != k) := by
  show k :: keysV (outV k l) = _
  rw [keys_out]
theorem keys_take (s : Nat) (l : List En) : keysV (l.take s) = (keysV l).take s := by
  unfold keysV
  rw [List.map_take]
theorem keys_len (l : List En) : (keysV l).length = l.length := by simp [keysV]
theorem out_len (k : Int) (l : List En) : (outV k l).length ≤ l.length := List.length_filter_le _ _
theorem led_len (l : List En) (k v : Int) : (ledV l k v).length ≤ l.length + 1 := by
  have := out_len k l
  simp only [ledV, List.length_cons]
  omega
theorem led_apart {l : List En} (h : (keysV l).Nodup) (k v : Int) : (keysV (ledV l k v)).Nodup := by
  rw [keys_led]
  refine List.nodup_cons.2 ⟨fun e => ?_, h.sublist List.filter_sublist⟩
  have := (List.mem_filter.1 e).2
  simp at this
theorem has_key {l : List En} {k : Int} {e : En} (h : hasV l k = some e) : e ∈ l ∧ e.1 = k := ⟨List.mem_of_find?_eq_some h, by simpa using List.find?_some h⟩
theorem has_mem {l : List En} {k : Int} {e : En} (h : hasV l k = some e) : k ∈ keysV l := by
  obtain ⟨h1, h2⟩ := has_key h
  exact List.mem_map.2 ⟨e, h1, h2⟩
theorem has_none {l : List En} {k : Int} (h : hasV l k = none) : k ∉ keysV l := fun e => by
  obtain ⟨x, hx, hk⟩ := List.mem_map.1 e
  have := List.find?_eq_none.1 h x hx
  simp [hk] at this
theorem out_lt {l : List En} {k : Int} (h : k ∈ keysV l) : (outV k l).length < l.length := by
  obtain ⟨x, hx, hk⟩ := List.mem_map.1 h
  unfold outV
  rcases Nat.lt_or_eq_of_le (List.length_filter_le (fun e : En => e.1 != k) l) with h1 | h1
  · exact h1
  · have := List.length_filter_eq_length_iff.1 h1 x hx
    simp [hk] at this
theorem out_same {l : List En} {k : Int} (h : k ∉ keysV l) : outV k l = l := by
  unfold outV
  rw [List.filter_eq_self]
  intro a ha
  have : a.1 ≠ k := fun e => h (List.mem_map.2 ⟨a, ha, e⟩)
  simpa using this
theorem Good.nil (s : Nat) : Good s [] := ⟨Nat.zero_le _, List.nodup_nil⟩
theorem Good.put {s : Nat} {l : List En} (h : Good s l) (k v : Int) : Good s (putL s l k v) := by
  refine ⟨by unfold putL; rw [List.length_take]; omega, ?_⟩
  unfold putL
  rw [keys_take]
  exact (led_apart h.apart k v).sublist (List.take_sublist _ _)
theorem Good.get {s : Nat} {l : List En} (h : Good s l) (k : Int) : Good s (getL l k) := by
  unfold getL
  cases hh : hasV l k with
  | none => exact h
  | some e =>
    refine ⟨?_, led_apart h.apart k _⟩
    have := out_lt (has_mem hh)
    have := h.few
    simp only [ledV, List.length_cons]
    omega
/-- Asked one by one: what is passed is not k; the first that is k is what is had. -/
theorem has_split {l pre post : List En} {e : En} {k : Int} (hl : l = pre ++ e :: post) (hp : ∀ x ∈ pre, x.1 ≠ k) (he : e.1 = k) : hasV l k = some e := by
  subst hl
  unfold hasV
  rw [List.find?_append, List.find?_eq_none.2 (fun x hx => by simpa using hp x hx)]
  simp [he]
theorem has_not {l : List En} {k : Int} (hp : ∀ x ∈ l, x.1 ≠ k) : hasV l k = none := List.find?_eq_none.2 (fun x hx => by simpa using hp x hx)

/-- Entries as cells. -/
def flat : List En → List Value
  | [] => []
  | e :: l => .int .i64 e.1 :: .int .i64 e.2 :: flat l
theorem flat_len : ∀ l : List En, (flat l).length = l.length * 2
  | [] => rfl
  | e :: l => by simp [flat, flat_len l]; omega
theorem flat_app : ∀ a b : List En, flat (a ++ b) = flat a ++ flat b
  | [], b => rfl
  | e :: a, b => by simp [flat, flat_app a b]
theorem flat_get : ∀ {l : List En} {k : Nat} {e : En}, l[k]? = some e → (flat l)[k * 2]? = some (.int .i64 e.1) ∧ (flat l)[k * 2 + 1]? = some (.int .i64 e.2)
  | [], k, e, h => by simp at h
  | x :: l, 0, e, h => by simp at h; subst h; exact ⟨rfl, rfl⟩
  | x :: l, k + 1, e, h => by
    have := flat_get (l := l) (k := k) (e := e) (by simpa using h)
    rw [show (k + 1) * 2 = k * 2 + 1 + 1 by omega]
    simpa [flat] using this
theorem flat_take : ∀ (l : List En) (n : Nat), flat (l.take n) = (flat l).take (n * 2)
  | [], n => by simp [flat]
  | e :: l, 0 => by simp [flat]
  | e :: l, n + 1 => by
    rw [show (n + 1) * 2 = n * 2 + 1 + 1 by omega]
    simp [flat, flat_take l n]
theorem flat_drop : ∀ (l : List En) (n : Nat), flat (l.drop n) = (flat l).drop (n * 2)
  | [], n => by simp [flat]
  | e :: l, 0 => by simp
  | e :: l, n + 1 => by
    rw [show (n + 1) * 2 = n * 2 + 1 + 1 by omega]
    simp [flat, flat_drop l n]
theorem flat_one {l : List En} : ∀ u ∈ flat l, u.oneCell' = true := by
  induction l with
  | nil => intro u hu; simp [flat] at hu
  | cons e l ih =>
    intro u hu
    simp only [flat, List.mem_cons] at hu
    rcases hu with rfl | rfl | hu
    · rfl
    · rfl
    · exact ih u hu

end Go.Proofs.Ytamcomlnfdfmeaa.Lr
