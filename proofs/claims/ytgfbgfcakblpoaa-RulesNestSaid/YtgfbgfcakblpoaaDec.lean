/- The iterator text.decoded, at every slice of bytes: it tells the code points of the bytes, one by one, and keeps nothing of its own in memory. -/
import Derived.Shelf.Abstract
import Derived.WalkKit
import Derived.OwnWalkIn
import Derived.TacticsInMore
import Derived.LoopNIn
import Derived.LoopIn
import Derived.Maps.AppendAt
import Derived.Test.YtgfbgfcakblpoaaSeq
import Derived.Test.YtgfbgfcakblpoaaPlain
import Derived.Test.YtgfbgfcakblpoaaProg
namespace Go.Proofs.Ytgfbgfcakblpoaa
open Go Go.RowKit Go.Shelf
attribute [local go_sem] Oper.semAt_some

/-- THE SLICE VALUE v HOLDS THE BYTES l, in a block below n₀. -/
def BytesAt (n₀ : Nat) (W : World) (v : Value) (l : List UInt8) : Prop :=
  (l = [] ∧ (v = .slice none 0 0 ∨ ∃ x cap, v = .slice (some x) 0 cap)) ∨ ∃ bk off cap, v = .slice (some ⟨bk, off, none⟩) l.length cap ∧ l.length ≤ cap ∧ cap ≤ maxLen ∧ bk < n₀ ∧ ∀ j u, l[j]? = some u → W.cell? ⟨bk, off + j, none⟩ = some (.int .u8 u.toNat)

theorem BytesAt.cases {n₀ : Nat} {X : World} {v : Value} {l : List UInt8} (h : BytesAt n₀ X v l) :
    (l = [] ∧ ∃ p cap, v = .slice p 0 cap) ∨ ∃ bk off cap, v = .slice (some ⟨bk, off, none⟩) l.length cap ∧ l.length ≤ cap ∧ cap ≤ maxLen ∧ bk < n₀ ∧ ∀ j u, l[j]? = some u → X.cell? ⟨bk, off + j, none⟩ = some (.int .u8 u.toNat) := by
  rcases h with ⟨h1, rfl | ⟨x, cap, rfl⟩⟩ | h
  · exact .inl ⟨h1, _, _, rfl⟩
  · exact .inl ⟨h1, _, _, rfl⟩
  · exact .inr h
theorem BytesAt.below {n₀ : Nat} {X Y : World} {v : Value} {l : List UInt8} (h : BytesAt n₀ X v l) (hb : Below n₀ X Y) : BytesAt n₀ Y v l := by
  rcases h with h | ⟨bk, off, cap, rfl, hc, hm, hbk, h⟩
  · exact .inl h
  · exact .inr ⟨bk, off, cap, rfl, hc, hm, hbk, fun j u hj => (hb.cell (p := ⟨bk, off + j, none⟩) hbk).trans (h j u hj)⟩
theorem BytesAt.mono {n₀ n₁ : Nat} {X : World} {v : Value} {l : List UInt8} (h : BytesAt n₀ X v l) (hn : n₀ ≤ n₁) : BytesAt n₁ X v l := by
  rcases h with h | ⟨bk, off, cap, rfl, hc, hm, hbk, h⟩
  · exact .inl h
  · exact .inr ⟨bk, off, cap, rfl, hc, hm, by omega, h⟩

end Go.Proofs.Ytgfbgfcakblpoaa
