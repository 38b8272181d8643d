/- tapestrierref9.SameInts at two slices of integers; the document's own Points and Prepare at every slice of bytes. -/
import Derived.Test.YtpbgefgoccmncaaDoorAlive
import Derived.OwnWalk
import Derived.Deep.QuietTactic
import Derived.BigQuiet
namespace Go.Proofs.YtpbgefgoccmncaaDoor
open Go Go.RowKit Go.Shelf

/-- THE SLICE VALUE v HOLDS THE INTEGERS l, in a block below n₀. -/
def IntsAt (n₀ : Nat) (W : World) (v : Value) (l : List Int) : Prop :=
  (l = [] ∧ (v = .slice none 0 0 ∨ ∃ x cap, v = .slice (some x) 0 cap)) ∨ ∃ bk off cap, v = .slice (some ⟨bk, off, none⟩) l.length cap ∧ l.length ≤ cap ∧ cap ≤ maxLen ∧ bk < n₀ ∧ ∀ j u, l[j]? = some u → W.cell? ⟨bk, off + j, none⟩ = some (.int .i64 u)

theorem IntsAt.cases {n₀ : Nat} {X : World} {v : Value} {l : List Int} (h : IntsAt n₀ X v l) :
    (l = [] ∧ ∃ p cap, v = .slice p 0 cap) ∨ ∃ bk off cap, v = .slice (some ⟨bk, off, none⟩) l.length cap ∧ l.length ≤ cap ∧ cap ≤ maxLen ∧ bk < n₀ ∧ ∀ j u, l[j]? = some u → X.cell? ⟨bk, off + j, none⟩ = some (.int .i64 u) := by
  rcases h with ⟨h1, rfl | ⟨x, cap, rfl⟩⟩ | h
  · exact .inl ⟨h1, _, _, rfl⟩
  · exact .inl ⟨h1, _, _, rfl⟩
  · exact .inr h
theorem IntsAt.below {n₀ : Nat} {X Y : World} {v : Value} {l : List Int} (h : IntsAt n₀ X v l) (hb : Below n₀ X Y) : IntsAt n₀ Y v l := by
  rcases h with h | ⟨bk, off, cap, rfl, hc, hm, hbk, h⟩
  · exact .inl h
  · exact .inr ⟨bk, off, cap, rfl, hc, hm, hbk, fun j u hj => (hb.cell (p := ⟨bk, off + j, none⟩) hbk).trans (h j u hj)⟩
theorem IntsAt.mono {n₀ n₁ : Nat} {X : World} {v : Value} {l : List Int} (h : IntsAt n₀ X v l) (hn : n₀ ≤ n₁) : IntsAt n₁ X v l := by
  rcases h with h | ⟨bk, off, cap, rfl, hc, hm, hbk, h⟩
  · exact .inl h
  · exact .inr ⟨bk, off, cap, rfl, hc, hm, by omega, h⟩
theorem IntsAt.len {n₀ : Nat} {X : World} {v : Value} {l : List Int} (h : IntsAt n₀ X v l) : ∃ p cap, v = .slice p l.length cap := by
  rcases h.cases with ⟨rfl, p, cap, rfl⟩ | ⟨bk, off, cap, rfl, _⟩
  · exact ⟨_, _, rfl⟩
  · exact ⟨_, _, rfl⟩
/-- A row that the call owns holds its integers. -/
theorem IntsAt.of_owns {X : World} {b : Nat} {e : TypeId} {v : Value} {l : List Int} {m : Nat} (h : X.ownsRow b e 1 v m (l.map (Value.int .i64))) (hm : m = l.length) : IntsAt X.heap.size X v l := by
  subst hm
  rcases owns_cells h with ⟨rfl, h2, h3⟩ | ⟨g, cap, rfl, h1, h2, h3, h4, h5⟩
  · exact .inl ⟨by simpa using h3, .inl rfl⟩
  · exact .inr ⟨g, 0, cap, rfl, h1, h2, h4, fun j u hj => h5 j _ (by rw [List.getElem?_map, hj]; rfl)⟩

theorem below_drewN (w : World) (n : Nat) : Below w.heap.size w (w.drewN n) := ⟨rfl, rfl, rfl, Nat.le_refl _, fun _ _ => rfl⟩

set_option maxRecDepth 100000 in
set_option maxHeartbeats 1000000 in
/-- SameInts: yes, where both hold one list. -/
theorem same_yes (v v' : Value) (l : List Int) (w : World) (hv : IntsAt w.heap.size w v l) (hv' : IntsAt w.heap.size w v' l) (hl : l.length ≤ maxLen) :
    Calls Tryd.prog 10 #[v, v'] w fun e w' => e = .returned (.bool true) ∧ ∃ n, w' = w.drewN n := by
  unfold maxLen at hl
  obtain ⟨p, cap, rfl⟩ := hv.len
  obtain ⟨p', cap', rfl⟩ := hv'.len
  go_enter Tryd.func10, Tryd.ntmps10
  go_wp2
  go_loopw [5] (fun i wr => ∃ k n : Nat, i = .int .i64 k ∧ k ≤ l.length ∧ wr = w.drewN n) (fun i _ => l.length - (intOf i).toNat)
  case atStart => exact ⟨0, 0, rfl, Nat.zero_le _, rfl⟩
  case round =>
    obtain ⟨k, n, rfl, hk, rfl⟩ := hrel
    by_cases hlt : k < l.length
    · obtain ⟨bk, off, hp, hcell⟩ : ∃ bk off, p = some ⟨bk, off, none⟩ ∧ ∀ j u, l[j]? = some u → w.cell? ⟨bk, off + j, none⟩ = some (.int .i64 u) := by
        rcases hv with ⟨rfl, _⟩ | ⟨bk, off, c, e, _, _, _, h⟩
        · simp at hlt
        · cases e; exact ⟨bk, off, rfl, h⟩
      obtain ⟨bk', off', hp', hcell'⟩ : ∃ bk off, p' = some ⟨bk, off, none⟩ ∧ ∀ j u, l[j]? = some u → w.cell? ⟨bk, off + j, none⟩ = some (.int .i64 u) := by
        rcases hv' with ⟨rfl, _⟩ | ⟨bk, off, c, e, _, _, _, h⟩
        · simp at hlt
        · cases e; exact ⟨bk, off, rfl, h⟩
      subst hp hp'
      have c1 := hcell k _ (List.getElem?_eq_getElem hlt)
      have c2 := hcell' k _ (List.getElem?_eq_getElem hlt)
      clear hcell hcell' hv hv'
      generalize l[k] = u at c1 c2
      have hki : (k : Int) < (l.length : Int) := by omega
      go_wp2
      go_quiet (fail)
      go_wp2
      exact ⟨⟨k + 1, _, by go_num, by omega, rfl⟩, by simp [intOf]; omega⟩
    · have hki : ¬ (k : Int) < (l.length : Int) := by omega
      go_wp2
      go_ret
      exact ⟨rfl, n, rfl⟩

end Go.Proofs.YtpbgefgoccmncaaDoor
