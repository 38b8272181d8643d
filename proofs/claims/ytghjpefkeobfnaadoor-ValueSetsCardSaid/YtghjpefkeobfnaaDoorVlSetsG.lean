/- The cells of what is set, one by one. -/
import Derived.Test.YtghjpefkeobfnaaDoorVlSets
namespace Go.Proofs.YtghjpefkeobfnaaDoor.Vl
open Go Go.RowKit

theorem svCells_len : ∀ l : List Sv, (l.flatMap svCells).length = l.length * 4
  | [] => rfl
  | t :: l => by
    rw [List.flatMap_cons, List.length_append, svCells_len l, List.length_cons]
    show 4 + _ = _
    omega
theorem svCells_at : ∀ (l : List Sv) (j : Nat) (t : Sv), l[j]? = some t → ∀ i, i < 4 → (l.flatMap svCells)[j * 4 + i]? = (svCells t)[i]?
  | [], j, t, h => by simp at h
  | x :: l, 0, t, h => by
    intro i hi
    obtain rfl : x = t := by simpa using h
    rw [List.flatMap_cons, Nat.zero_mul, Nat.zero_add, List.getElem?_append_left (by show i < 4; exact hi)]
  | x :: l, j + 1, t, h => by
    intro i hi
    have ih := svCells_at l j t (by simpa using h) i hi
    rw [List.flatMap_cons, List.getElem?_append_right (by show 4 ≤ _; omega), ← ih]
    congr 1
    show (j + 1) * 4 + i - 4 = _
    omega
theorem SetsIn.get {b : Nat} {X : World} {p : Option Addr} {n c : Nat} {l : List Sv} (h : SetsIn b X (.slice p n c) l) {k : Nat} {t : Sv} (hk : l[k]? = some t) :
    ∃ g, p = some ⟨g, 0, none⟩ ∧ X.cell? ⟨g, k * 4, none⟩ = some (.int .i64 t.1) ∧ X.cell? ⟨g, k * 4 + 1, none⟩ = some (.int .i64 t.2.1) ∧ X.cell? ⟨g, k * 4 + 2, none⟩ = some (.int .i64 t.2.2.1) ∧ X.cell? ⟨g, k * 4 + 3, none⟩ = some (.bool t.2.2.2) := by
  rcases h.2 with ⟨hv, hm⟩ | ⟨g, cap, cur, hv, hg, hb, h1, h2, h3, h4⟩
  · rw [List.length_eq_zero_iff.1 hm] at hk
    simp at hk
  · cases hv
    have hlt : k < l.length := (List.getElem?_eq_some_iff.1 hk).1
    have key : ∀ i, i < 4 → X.cell? ⟨g, k * 4 + i, none⟩ = (svCells t)[i]? := fun i hi => by
      rw [cell_of_block hb, ← svCells_at l k t hk i hi, ← h4, List.getElem?_take_of_lt (by omega)]
      simp
    exact ⟨g, rfl, key 0 (by omega), key 1 (by omega), key 2 (by omega), key 3 (by omega)⟩

end Go.Proofs.YtghjpefkeobfnaaDoor.Vl
