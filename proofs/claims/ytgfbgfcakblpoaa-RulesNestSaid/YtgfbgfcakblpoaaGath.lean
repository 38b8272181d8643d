/- text.gather over whatever iterator tells at most as many integers as there is room for; text.Points and text.Prepare at every slice of bytes. -/
import Derived.Test.YtgfbgfcakblpoaaPrep
namespace Go.Proofs.Ytgfbgfcakblpoaa
open Go Go.RowKit Go.Shelf
attribute [local go_sem] Oper.semAt_some

theorem infoInt : (Try.prog.info? 3).map (fun i => (i.zero, i.size, i.bytes)) = some (some (.int .i64 0), 1, 8) := by kernel_rfl

theorem owns_base {X : World} {b b' : Nat} {e : TypeId} {size : Nat} {v : Value} {m : Nat} {xs : List Value} (h : X.ownsRow b e size v m xs) (hb : b' ≤ b) : X.ownsRow b' e size v m xs := by
  refine ⟨h.1, ?_⟩
  rcases h.2 with h2 | ⟨g, cap, cur, hv, hg, rest⟩
  · exact .inl h2
  · exact .inr ⟨g, cap, cur, hv, Nat.le_trans hb hg, rest⟩

theorem BytesAt.len {n₀ : Nat} {X : World} {v : Value} {l : List UInt8} (h : BytesAt n₀ X v l) : ∃ p cap, v = .slice p l.length cap ∧ v.oneCell' = true := by
  rcases h.cases with ⟨rfl, p, cap, rfl⟩ | ⟨bk, off, cap, rfl, _⟩
  · exact ⟨_, _, rfl, rfl⟩
  · exact ⟨_, _, rfl, rfl⟩

end Go.Proofs.Ytgfbgfcakblpoaa
