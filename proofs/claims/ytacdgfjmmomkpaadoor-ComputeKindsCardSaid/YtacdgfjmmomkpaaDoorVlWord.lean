/- package value: word, over the table that its text lays; color, at every string. -/
import Derived.Test.YtacdgfjmmomkpaaDoorVlCut
namespace Go.Proofs.YtacdgfjmmomkpaaDoor.Vl
open Go Go.RowKit

def wordCells (r : Int × List UInt8 × Int × Int) : List Value := [.int .i64 r.1, .string ⟨r.2.1.toArray⟩, .int .i64 r.2.2.1, .int .i64 r.2.2.2]
/-- The table of words as it lies. -/
def wordRow : Array Value := (wordsT.flatMap wordCells).toArray
theorem wordL_step {k : Nat} {r : Int × List UInt8 × Int × Int} {p : Int} {s : List UInt8} (hr : wordsT[k]? = some r) : wordL (wordsT.drop k) p s = if hits r p s then (r.2.2.1, r.2.2.2, true) else wordL (wordsT.drop (k + 1)) p s := by
  obtain ⟨hk, rfl⟩ := List.getElem?_eq_some_iff.1 hr
  rw [List.drop_eq_getElem_cons hk]
  rfl

theorem beq_false {a b : ByteArray} (h : ¬ a = b) : (a.toList == b.toList) = false := by
  rw [ByteArray.toList_eq, ByteArray.toList_eq, beq_eq_false_iff_ne]
  intro e
  exact h (ByteArray.ext (Array.toList_inj.1 e))

/-! ### the table of properties -/
def propsT : List (List UInt8 × Bool × Int) :=
  [([99, 111, 108, 111, 114], true, 0), ([102, 111, 110, 116, 45, 115, 105, 122, 101], true, 16000), ([116, 101, 120, 116, 45, 97, 108, 105, 103, 110], true, 0), ([100, 105, 115, 112, 108, 97, 121], false, 2),
   ([119, 105, 100, 116, 104], false, -1), ([109, 97, 114, 103, 105, 110], false, 0), ([111, 112, 97, 99, 105, 116, 121], false, 1000), ([122, 45, 105, 110, 100, 101, 120], false, 1099511627776)]
def propCells (r : List UInt8 × Bool × Int) : List Value := [.string ⟨r.1.toArray⟩, .bool r.2.1, .int .i64 r.2.2]
def propRow : Array Value := (propsT.flatMap propCells).toArray
def PropsAt (n₀ : Nat) (W : World) : Prop := 0 < n₀ ∧ ∃ t fr, W.heap[(0 : Nat)]? = some (.cells propRow t fr)
theorem PropsAt.below {n₀ : Nat} {X Y : World} (h : PropsAt n₀ X) (hb : Below n₀ X Y) : PropsAt n₀ Y := ⟨h.1, h.2.elim fun t h2 => h2.elim fun fr h3 => ⟨t, fr, (hb.block _ h.1).trans h3⟩⟩
theorem PropsAt.mono {n₀ n₁ : Nat} {X : World} (h : PropsAt n₀ X) (hn : n₀ ≤ n₁) : PropsAt n₁ X := ⟨Nat.lt_of_lt_of_le h.1 hn, h.2⟩
theorem PropsAt.next {X Y : World} (h : PropsAt X.heap.size X) (hb : Below X.heap.size X Y) : PropsAt Y.heap.size Y := (h.below hb).mono hb.size
/-- A property's three cells. -/
theorem PropsAt.cells {n₀ : Nat} {X : World} (h : PropsAt n₀ X) : ∀ (k : Nat) (r : List UInt8 × Bool × Int), propsT[k]? = some r →
    X.cell? ⟨0, k * 3, none⟩ = some (.string ⟨r.1.toArray⟩) ∧ X.cell? ⟨0, k * 3 + 1, none⟩ = some (.bool r.2.1) ∧ X.cell? ⟨0, k * 3 + 2, none⟩ = some (.int .i64 r.2.2) := by
  obtain ⟨_, t, fr, hr⟩ := h
  intro k r hk
  rw [cell_of_block hr, cell_of_block hr, cell_of_block hr]
  match k, hk with
  | 0, hk => cases hk; exact ⟨rfl, rfl, rfl⟩
  | 1, hk => cases hk; exact ⟨rfl, rfl, rfl⟩
  | 2, hk => cases hk; exact ⟨rfl, rfl, rfl⟩
  | 3, hk => cases hk; exact ⟨rfl, rfl, rfl⟩
  | 4, hk => cases hk; exact ⟨rfl, rfl, rfl⟩
  | 5, hk => cases hk; exact ⟨rfl, rfl, rfl⟩
  | 6, hk => cases hk; exact ⟨rfl, rfl, rfl⟩
  | 7, hk => cases hk; exact ⟨rfl, rfl, rfl⟩
  | k + 8, hk => simp [propsT] at hk
end Go.Proofs.YtacdgfjmmomkpaaDoor.Vl
