/- A filter of the call's own, pushed, popped and asked. -/
import Derived.Test.YteklgelmakbmcaaBlMay
import Derived.Test.YteklgelmakbmcaaBlFact
namespace Go.Proofs.Yteklgelmakbmcaa.Bl
open Go Go.RowKit

/-- A filter of the call's own: its block b, all below n as it was. -/
structure Has (w : World) (b : Nat) (c : Nat → Nat) (X : World) : Prop where
  flt : FltAt X b c
  low : w.heap.size ≤ b
  below : Below w.heap.size w X
theorem Has.push {w : World} {b : Nat} {c : Nat → Nat} {X : World} (hh : Has w b c X) (h : Int) :
    Calls Try.prog 18 #[.pointer (some ⟨b, 0, none⟩), .slice (some ⟨X.heap.size, 0, none⟩) 1 1] (X.alloc (.cells #[.int .i64 h] 3)) fun e w' => (∃ u, e = .returned u) ∧ Has w b (pushV c [h]) w' := by
  have hlt := hh.flt.lt
  refine Calls.mono (push_any b c _ _ _ (hh.flt.kept (Below.heap_alloc _ _ _ hlt)) (one_new X h) (fun r hr _ => by simp [Value.ownBlock] at hr; omega)) ?_
  rintro e w' ⟨hu, hf, fr⟩
  have hs := hh.below.size
  have hl := hh.low
  exact ⟨hu, hf, hh.low, (hh.below.alloc (by omega) _).trans (fr.below (by simp; omega) (fun r (e : r = b) => by omega))⟩
theorem Has.pop {w : World} {b : Nat} {c : Nat → Nat} {X : World} (hh : Has w b c X) (h : Int) :
    Calls Try.prog 19 #[.pointer (some ⟨b, 0, none⟩), .slice (some ⟨X.heap.size, 0, none⟩) 1 1] (X.alloc (.cells #[.int .i64 h] 3)) fun e w' => (∃ u, e = .returned u) ∧ Has w b (popV c [h]) w' := by
  have hlt := hh.flt.lt
  refine Calls.mono (pop_any b c _ _ _ (hh.flt.kept (Below.heap_alloc _ _ _ hlt)) (one_new X h) (fun r hr _ => by simp [Value.ownBlock] at hr; omega)) ?_
  rintro e w' ⟨hu, hf, fr⟩
  have hs := hh.below.size
  have hl := hh.low
  exact ⟨hu, hf, hh.low, (hh.below.alloc (by omega) _).trans (fr.below (by simp; omega) (fun r (e : r = b) => by omega))⟩
theorem Has.ext {w : World} {b : Nat} {c c' : Nat → Nat} {X : World} (hh : Has w b c X) (e : ∀ i, c' i = c i) : Has w b c' X := ⟨hh.flt.ext e, hh.low, hh.below⟩

theorem Has.may {w : World} {b : Nat} {c : Nat → Nat} {X : World} (hh : Has w b c X) (h : Int) :
    Calls Try.prog 22 #[.pointer (some ⟨b, 0, none⟩), .int .i64 h] X fun e w' => e = .returned (.bool (mayV c h)) ∧ Has w b c w' := by
  have hs := hh.below.size
  refine Calls.mono (may_any b c h X hh.flt) ?_
  rintro e w' ⟨rfl, hb⟩
  exact ⟨rfl, hh.flt.kept (hb.block b hh.flt.lt), hh.low, hh.below.trans (hb.mono hs)⟩
theorem Has.count {w : World} {b : Nat} {c : Nat → Nat} {X : World} (hh : Has w b c X) (i : Nat) (hi : i < 1024) :
    Calls Try.prog 24 #[.pointer (some ⟨b, 0, none⟩), .int .i64 (i : Int)] X fun e w' => e = .returned (.int .i64 (c i)) ∧ w' = X := by
  have := count_any b c (i : Int) X hh.flt
  rw [if_pos ⟨by omega, by omega⟩, Int.toNat_natCast] at this
  exact this
/-- A slice that lay before the call. -/
theorem Has.pushAt {w : World} {b : Nat} {c : Nat → Nat} {X : World} (hh : Has w b c X) {v : Value} {l : List Int} (hl : IntsR w v l) :
    Calls Try.prog 18 #[.pointer (some ⟨b, 0, none⟩), v] X fun e w' => (∃ u, e = .returned u) ∧ Has w b (pushV c l) w' := by
  have hlo := hh.low
  have hl' : IntsR X v l := by
    by_cases h0 : l = []
    · subst h0; obtain ⟨p, c, rfl⟩ := hl.len; exact .inl ⟨rfl, _, _, rfl⟩
    · exact hl.kept (fun r hr => hh.below.block r (hl.lt h0 hr))
  refine Calls.mono (push_any b c v l X hh.flt hl' (fun r hr h0 => by have := hl.lt h0 hr; omega)) ?_
  rintro e w' ⟨hu, hf, fr⟩
  exact ⟨hu, hf, hh.low, hh.below.trans (fr.below hh.below.size (fun r (e : r = b) => by omega))⟩
theorem Has.popAt {w : World} {b : Nat} {c : Nat → Nat} {X : World} (hh : Has w b c X) {v : Value} {l : List Int} (hl : IntsR w v l) :
    Calls Try.prog 19 #[.pointer (some ⟨b, 0, none⟩), v] X fun e w' => (∃ u, e = .returned u) ∧ Has w b (popV c l) w' := by
  have hlo := hh.low
  have hl' : IntsR X v l := by
    by_cases h0 : l = []
    · subst h0; obtain ⟨p, c, rfl⟩ := hl.len; exact .inl ⟨rfl, _, _, rfl⟩
    · exact hl.kept (fun r hr => hh.below.block r (hl.lt h0 hr))
  refine Calls.mono (pop_any b c v l X hh.flt hl' (fun r hr h0 => by have := hl.lt h0 hr; omega)) ?_
  rintro e w' ⟨hu, hf, fr⟩
  exact ⟨hu, hf, hh.low, hh.below.trans (fr.below hh.below.size (fun r (e : r = b) => by omega))⟩

end Go.Proofs.Yteklgelmakbmcaa.Bl
