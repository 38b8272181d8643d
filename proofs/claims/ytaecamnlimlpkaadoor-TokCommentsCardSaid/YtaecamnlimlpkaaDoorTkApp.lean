/- Appending to rows that the call owns: bytes, strings and tokens; the tokens of parts. -/
import Derived.Test.YtaecamnlimlpkaaDoorTkUse
import Derived.Test.YtaecamnlimlpkaaDoorAppSrc
import Derived.Lib.AppendStr
namespace Go.Proofs.YtaecamnlimlpkaaDoor
open Go Go.RowKit Go.Shelf

theorem prep_semi {c : UInt8} (hc : c.toNat < 128) (h10 : c.toNat ≠ 10) (h13 : c.toNat ≠ 13) (h12 : c.toNat ≠ 12) (h0 : c.toNat ≠ 0) (a r : List UInt8) : prep (ipts (a ++ c :: r)) = prep (ipts a) ++ (c.toNat : Int) :: prep (ipts r) := by
  rw [ipts_ahead hc r _ a (Nat.le_refl _), ipts_plain1 hc, prep_append _ _ (by rw [see_zero]; omega), prep_cons (by omega) (by omega) (by omega)]
theorem strCells_ubytes (s : ByteArray) : Lib.strCells s = ubytes s.data.toList := by
  simp [Lib.strCells, ubytes]
/-- A row of tokens as a source. -/
theorem TksAt.src {n₀ : Nat} {X : World} {v : Value} {l : List Tk} (h : X.ownsRow n₀ 26 5 v l.length (tksCells l)) :
    (v = .slice none 0 0 ∧ l.length = 0) ∨ ∃ ad c, v = .slice (some ad) l.length c ∧ ∀ j u, (tksCells l)[j]? = some u → X.cell? (ad.add j) = some u := by
  rcases h.2 with ⟨rfl, hm⟩ | ⟨g, cap, cur, rfl, hg, hb, h1, h2, h3, h4⟩
  · exact .inl ⟨rfl, hm⟩
  · refine .inr ⟨_, cap, rfl, fun j u hj => ?_⟩
    rw [addr_add, Nat.zero_add, cell_of_block hb]
    rw [← h4, List.getElem?_take] at hj
    split at hj
    · simpa using hj
    · cases hj
theorem tksCells_one (l : List Tk) : ∀ u ∈ tksCells l, u.oneCell' = true := fun u hu => by
  unfold tksCells at hu
  obtain ⟨t, _, ht⟩ := List.mem_flatMap.1 hu
  simp [tkCells] at ht
  rcases ht with rfl | rfl | rfl | rfl | rfl <;> rfl
theorem tksCells_append (a b : List Tk) : tksCells (a ++ b) = tksCells a ++ tksCells b := by simp [tksCells]
/-- What an append onto a row of one's own leaves alone. -/
theorem below_app {w X Y : World} {B : Nat} {e : TypeId} {size : Nat} {v : Value} {k : Nat} {xs : List Value} (hb : Below B w X) (hB : B ≤ X.heap.size) (hrow : X.ownsRow B e size v k xs) (hg : X.grownBy Y v.ownBlock) : Below B w Y :=
  hb.grown hg hB (fun j ej => (hrow.lt j ej).1)
/-- A row of one's own behind what leaves all that was there alone. -/
theorem owns_below {X Y : World} {b : Nat} {e : TypeId} {size : Nat} {v : Value} {m : Nat} {xs : List Value} (h : X.ownsRow b e size v m xs) (hb : Below X.heap.size X Y) : Y.ownsRow b e size v m xs :=
  h.kept (grown_of_below hb none) (by
    cases v.ownBlock with
    | none => exact .inl rfl
    | some j => exact .inr (by simp))

end Go.Proofs.YtaecamnlimlpkaaDoor
