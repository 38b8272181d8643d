/- package match in use: Compound and Any; selectors that a law lays itself; the laws' own alive and trees. -/
import Derived.Test.YtchfnnoabejlpaaMtSel
import Derived.Test.YtchfnnoabejlpaaDmGd
import Derived.Test.YtchfnnoabejlpaaDmGc
namespace Go.Proofs.Ytchfnnoabejlpaa.Mt
open Go.Proofs.Ytchfnnoabejlpaa.Tre
open Go Go.RowKit Dm

/-- Parts in a block that is known whole: one part. -/
theorem parts_one {W : World} {B d : Nat} {comb : Int} {c : Cp} {vi vc va vp : Value} (k : Blk W B 42 [.int .i64 comb, .string c.tag, vi, vc, va, vp]) (hc : CpT (SelsAt d W.heap.size W) W.heap.size W [.string c.tag, vi, vc, va, vp] c) (hi : i64 comb) :
    PartsAt d W.heap.size W (.slice (some ⟨B, 0, none⟩) 1 1) [(comb, c)] := by
  refine .inr ⟨B, 0, 1, rfl, Nat.le_refl _, by unfold maxLen; omega, k.lt, fun j x hx => ?_⟩
  have hj : j = 0 := by have := (List.getElem?_eq_some_iff.1 hx).1; simpa using this
  subst hj
  obtain rfl : (comb, c) = x := by simpa using hx
  refine ⟨[.int .i64 comb, .string c.tag, vi, vc, va, vp], rfl, ⟨_, rfl, hc, hi⟩, fun i u hu => ?_⟩
  rw [cell_of_block (show W.heap[B]? = _ from k)]
  simpa using hu
theorem parts_none (d n : Nat) (W : World) : PartsAt d n W (.slice none 0 0) [] := .inl ⟨rfl, _, _, rfl⟩
theorem cp_zero (Q : Value → List Sel → Prop) (n : Nat) (W : World) : CpT Q n W [.string ⟨#[]⟩, .slice none 0 0, .slice none 0 0, .slice none 0 0, .slice none 0 0] zeroCp :=
  ⟨_, _, _, _, rfl, .inl ⟨rfl, _, _, rfl⟩, .inl ⟨rfl, _, _, rfl⟩, .inl ⟨rfl, _, _, rfl⟩, .inl ⟨rfl, _, _, rfl⟩, Nat.zero_le _, fun _ h => by cases h⟩
/-- A compound that has one pseudo-class alone. -/
def psCp (q : Ps) : Cp := .mk ⟨#[]⟩ [] [] [] [q]
theorem cp_ps {Q : Value → List Sel → Prop} {W : World} {B : Nat} {q : Ps} {x : Value} (k : Blk W B 56 (psCells q x)) (hQ : Q x q.list) (h1 : i64 q.kind) (h2 : i64 q.a) (h3 : i64 q.b) (h4 : q.list.length ≤ 8796093022208) : CpT Q W.heap.size W [.string ⟨#[]⟩, .slice none 0 0, .slice none 0 0, .slice none 0 0, .slice (some ⟨B, 0, none⟩) 1 1] (psCp q) := by
  refine ⟨_, _, _, _, rfl, .inl ⟨rfl, _, _, rfl⟩, .inl ⟨rfl, _, _, rfl⟩, .inl ⟨rfl, _, _, rfl⟩, .inr ⟨B, 0, 1, rfl, Nat.le_refl _, by unfold maxLen; omega, k.lt, fun j y hy => ?_⟩, by simp [psCp, Cp.pss], fun _ h => by cases h⟩
  have hj : j = 0 := by have := (List.getElem?_eq_some_iff.1 hy).1; simpa [psCp, Cp.pss] using this
  subst hj
  obtain rfl : q = y := by simpa [psCp, Cp.pss] using hy
  refine ⟨psCells q x, rfl, ⟨x, rfl, hQ, h1, h2, h3, h4⟩, fun i u hu => ?_⟩
  rw [cell_of_block (show W.heap[B]? = _ from k)]
  simpa using hu

/-- What match.Compound answers. -/
def compoundV (es : List El) (e : Int) (c : Cp) : Bool := selectorV es e [(0, c)]
set_option maxRecDepth 100000 in
set_option maxHeartbeats 2000000 in
theorem compound_any (qs : List Em) (w : World) (HAT : ∀ a, AtOk a → AttrK w (qs.map Em.e) a) (b tb g cap : Nat) (hT : Tr b w tb g cap qs) (hO : TreeOk (qs.map Em.e)) (hl : qs.length ≤ 4096) (hN : ∀ q ∈ qs, NdOk q.e.nd) (e : Int) (d : Nat) (c : Cp) (vi vc va vp : Value) (hc : CpT (SelsAt d w.heap.size w) w.heap.size w [.string c.tag, vi, vc, va, vp] c) :
    Calls Try.prog 14 #[.pointer (some ⟨tb, 0, none⟩), .int .i64 e, .agg #[.string c.tag, vi, vc, va, vp]] w fun r w' => r = .returned (.bool (compoundV (qs.map Em.e) e c)) ∧ Below w.heap.size w w' := by
  have hc' := hc
  obtain ⟨_, _, _, _, he, h1, h2, h3, h4, _⟩ := hc
  cases he
  obtain ⟨pi, ci, rfl⟩ := h1.len
  obtain ⟨pc, cc, rfl⟩ := h2.len
  obtain ⟨pa, ca, rfl⟩ := h3.len
  obtain ⟨pp, cp, rfl⟩ := RowT.len h4
  obtain ⟨w2, hw2⟩ : ∃ w2, (w.alloc (.cells #[.string c.tag, .slice pi c.ids.length ci, .slice pc c.classes.length cc, .slice pa c.attrs.length ca, .slice pp c.pss.length cp] 40)).alloc (.cells #[.int .i64 0, .string c.tag, .slice pi c.ids.length ci, .slice pc c.classes.length cc, .slice pa c.attrs.length ca, .slice pp c.pss.length cp] 42) = w2 := ⟨_, rfl⟩
  have b2 : Below w.heap.size w w2 := by rw [← hw2]; exact ((Below.refl _ w).alloc (Nat.le_refl _) _).alloc (by simp) _
  have k2 : Blk w2 (w.heap.size + 1) 42 [.int .i64 0, .string c.tag, .slice pi c.ids.length ci, .slice pc c.classes.length cc, .slice pa c.attrs.length ca, .slice pp c.pss.length cp] := by
    rw [← hw2]
    have := Blk.new (w.alloc (.cells #[.string c.tag, .slice pi c.ids.length ci, .slice pc c.classes.length cc, .slice pa c.attrs.length ca, .slice pp c.pss.length cp] 40)) 42 [.int .i64 0, .string c.tag, .slice pi c.ids.length ci, .slice pc c.classes.length cc, .slice pa c.attrs.length ca, .slice pp c.pss.length cp]
    rwa [World.size_alloc] at this
  have hP : PartsAt d w2.heap.size w2 (.slice (some ⟨w.heap.size + 1, 0, none⟩) 1 1) [(0, c)] := parts_one k2 (CpT.mono (CpT.below hc' b2 (fun _ _ h => h.below d b2)) b2.size (fun _ _ h => h.mono d b2.size)) ⟨by decide, by decide⟩
  have hs := selector_any qs w2 (fun a ha => (HAT a ha).next b2) b tb g cap (hT.next b2) hO hl hN e d _ _ hP
  clear hT hO hN HAT hc' h1 h2 h3 h4 k2 hP
  go_enter Try.func14, Try.ntmps14
  go_wp2_with fail
  refine hs.mono ?_
  clear hs
  rintro r X ⟨rfl, bX⟩
  have b9 := below_next b2 bX
  go_wp2
  go_ret
  exact ⟨rfl, b9⟩

end Go.Proofs.Ytchfnnoabejlpaa.Mt

/- package match in use: Any, for a list of selectors. -/
namespace Go.Proofs.Ytchfnnoabejlpaa.Mt
open Go.Proofs.Ytchfnnoabejlpaa.Tre
open Go Go.RowKit Dm

/-- What match.Any answers. -/
def givenV (es : List El) (e : Int) (l : List Sel) : Bool := l.any (selectorV es e)

end Go.Proofs.Ytchfnnoabejlpaa.Mt
