/- package match: the elements to which a combinator leads, as an iterator. -/
import Derived.Test.YtgjfapdnobhkcabMtInv
import Derived.Test.YtgjfapdnobhkcabSeqW
import Derived.RangeFuncBox
import Derived.Shelf.RegionOpen
import Derived.LoopIn
import Derived.Laws.EntriesVeiled
namespace Go.Proofs.Ytgjfapdnobhkcab.Mt
open Go Go.RowKit Go.Shelf Dm
attribute [local go_sem] Oper.semAt_some

/-! ### the way -/
theorem parentV_lt {es : List El} (hO : TreeOk es) {k : Nat} (hk : k < es.length) : parentV es k = -1 ∨ ∃ j : Nat, parentV es k = j ∧ j < k := by
  have hq : es[k]? = some es[k] := List.getElem?_eq_getElem hk
  have hV : parentV es (k : Int) = es[k].nd.parent := by unfold parentV; rw [elAt_yes hq]; rfl
  rw [hV]
  rcases Nat.eq_zero_or_pos k with rfl | h0
  · exact .inl (hO.root _ hq).1
  · obtain ⟨p, q, h1, h2, _⟩ := hO.par k _ hq h0
    exact .inr ⟨p, h1, h2⟩
theorem beforeV_lt {es : List El} (hO : TreeOk es) {k : Nat} (hk : k < es.length) : beforeV es k = -1 ∨ ∃ j : Nat, beforeV es k = j ∧ j < k := by
  have hq : es[k]? = some es[k] := List.getElem?_eq_getElem hk
  unfold beforeV
  rw [if_pos ⟨by omega, by omega⟩, Int.toNat_natCast, sibV_at hq]
  rcases Nat.eq_zero_or_pos k with rfl | h0
  · rw [if_pos (hO.root _ hq).1]
    exact .inl rfl
  · obtain ⟨p, q, h1, h2, h3, _, h5, h6⟩ := hO.par k _ hq h0
    rw [if_neg (by omega), h1]
    have hc : childrenV es (p : Int) = q.ch := by unfold childrenV; rw [elAt_yes h3]; rfl
    rw [hc]
    by_cases hp : es[k].place = 1
    · exact .inl (nthI_no (by omega))
    · right
      have hi : ((es[k].place : Int) - 1 + -1) = ((es[k].place - 2 : Nat) : Int) := by omega
      rw [hi]
      have hlt := (List.getElem?_eq_some_iff.1 h6).1
      have hx : q.ch[es[k].place - 2]? = some (q.ch[es[k].place - 2]'(by omega)) := List.getElem?_eq_getElem (by omega)
      rw [nthI_yes hx]
      refine ⟨_, rfl, ?_⟩
      have hr := hO.rise p q h3
      rw [List.pairwise_iff_getElem] at hr
      have := hr (es[k].place - 2) (es[k].place - 1) (by omega) hlt (by omega)
      rwa [(List.getElem?_eq_some_iff.1 h6).2] at this
theorem nextV_lt {es : List El} (hO : TreeOk es) {k : Nat} (hk : k < es.length) (comb : Int) : nextV es comb k = -1 ∨ ∃ j : Nat, nextV es comb k = j ∧ j < k := by
  unfold nextV
  split
  · exact parentV_lt hO hk
  · split
    · exact beforeV_lt hO hk
    · exact .inl rfl
/-- What is still to come. -/
def restV (es : List El) (comb : Int) (f : Nat) (y : Int) : List Nat := if y = -1 then [] else y.toNat :: (if farV comb then chain es comb f y else [])
theorem chain_succ (es : List El) (comb : Int) (f : Nat) (x : Int) : chain es comb (f + 1) x = restV es comb f (nextV es comb x) := rfl
theorem restV_end (es : List El) (comb : Int) (f : Nat) : restV es comb f (-1) = [] := if_pos rfl
theorem restV_at (es : List El) (comb : Int) (f j : Nat) : restV es comb f (j : Int) = j :: (if farV comb then chain es comb f j else []) := by
  unfold restV
  rw [if_neg (by omega), Int.toNat_natCast]

/-- The function that leads on, as a value. -/
def wayF (tb : Nat) (comb : Int) : Value := if comb = 1 ∨ comb = 2 then .func (.func 81) #[.pointer (some ⟨tb, 0, none⟩)] #[] else if comb = 3 ∨ comb = 4 then .func (.func 87) #[.pointer (some ⟨tb, 0, none⟩)] #[] else .func (.func 88) #[] #[]

set_option maxRecDepth 100000 in
theorem way_any (tb : Nat) (comb : Int) (w : World) :
    Calls Try.prog 71 #[.pointer (some ⟨tb, 0, none⟩), .int .i64 comb] w fun e w' => e = .returned (.tuple #[wayF tb comb, .bool (farV comb)]) ∧ w' = w := by
  by_cases h1 : comb = 1
  · subst h1
    go_enter Try.func71, Try.ntmps71
    go_wp2
    go_ret2
    exact ⟨rfl, rfl⟩
  have e1 : (comb == 1) = false := by simpa using h1
  by_cases h2 : comb = 2
  · subst h2
    go_enter Try.func71, Try.ntmps71
    go_wp2
    go_ret2
    exact ⟨rfl, rfl⟩
  have e2 : (comb == 2) = false := by simpa using h2
  by_cases h3 : comb = 3
  · subst h3
    go_enter Try.func71, Try.ntmps71
    go_wp2
    go_ret2
    exact ⟨rfl, rfl⟩
  have e3 : (comb == 3) = false := by simpa using h3
  by_cases h4 : comb = 4
  · subst h4
    go_enter Try.func71, Try.ntmps71
    go_wp2
    go_ret2
    exact ⟨rfl, rfl⟩
  have e4 : (comb == 4) = false := by simpa using h4
  have hF : wayF tb comb = .func (.func 88) #[] #[] := by unfold wayF; rw [if_neg (by omega), if_neg (by omega)]
  have hf : farV comb = false := decide_eq_false (by omega)
  rw [hF, hf]
  go_enter Try.func71, Try.ntmps71
  go_wp2
  go_ret2
  exact ⟨rfl, rfl⟩
theorem wayF_form (tb : Nat) (comb : Int) : ∃ fn bd, wayF tb comb = .func (.func fn) bd #[] := by
  unfold wayF
  split
  · exact ⟨_, _, rfl⟩
  · split
    · exact ⟨_, _, rfl⟩
    · exact ⟨_, _, rfl⟩

/-- What ahead leaves: three boxes. -/
def Ahead (tb : Nat) (e comb : Int) (w : World) (x : Ending) (w' : World) : Prop :=
  x = .returned (.func (.func 72) #[] #[.pointer (some ⟨w.heap.size + 1, 0, none⟩), .pointer (some ⟨w.heap.size, 0, none⟩), .pointer (some ⟨w.heap.size + 2, 0, none⟩)]) ∧
    Boxed w' w.heap.size 3 (.int .i64 e) ∧ Boxed w' (w.heap.size + 1) 50 (wayF tb comb) ∧ Boxed w' (w.heap.size + 2) 4 (.bool (farV comb)) ∧ Below w.heap.size w w' ∧ w'.heap.size = w.heap.size + 3
set_option maxRecDepth 100000 in
set_option maxHeartbeats 1000000 in
theorem ahead_any (tb : Nat) (e comb : Int) (w : World) :
    Calls Try.prog 63 #[.pointer (some ⟨tb, 0, none⟩), .int .i64 e, .int .i64 comb] w (Ahead tb e comb w) := by
  unfold Ahead
  have hw := way_any tb comb (w.alloc (.cells #[.int .i64 e] 3))
  obtain ⟨W3, h3⟩ : ∃ W3, ((w.alloc (.cells #[.int .i64 e] 3)).alloc (.cells #[.nilFunc] 50)).alloc (.cells #[.bool false] 4) = W3 := ⟨_, rfl⟩
  have s3 : W3.heap.size = w.heap.size + 3 := by rw [← h3]; simp
  have b3 : Below w.heap.size w W3 := by rw [← h3]; exact (((Below.refl _ w).alloc (Nat.le_refl _) _).alloc (by simp) _).alloc (by simp; omega) _
  have x0 : Boxed W3 w.heap.size 3 (.int .i64 e) := by rw [← h3]; exact ((Boxed.new _ _ _).alloc _).alloc _
  have x1 : Boxed W3 (w.heap.size + 1) 50 .nilFunc := by
    rw [← h3]
    have := (Boxed.new (w.alloc (.cells #[.int .i64 e] 3)) 50 .nilFunc).alloc (.cells #[.bool false] 4)
    rwa [World.size_alloc] at this
  have x2 : Boxed W3 (w.heap.size + 2) 4 (.bool false) := by
    rw [← h3]
    have := Boxed.new ((w.alloc (.cells #[.int .i64 e] 3)).alloc (.cells #[.nilFunc] 50)) 4 (.bool false)
    rwa [World.size_alloc, World.size_alloc] at this
  have c1 := x1.cell
  have f1 := x1.frozen
  have c2 := x2.cell
  have f2 := x2.frozen
  by_cases h1 : comb = 1 ∨ comb = 2
  · have hF : wayF tb comb = .func (.func 81) #[.pointer (some ⟨tb, 0, none⟩)] #[] := if_pos h1
    rw [hF] at hw ⊢
    clear hF
    have g1 := grownBy_setCell' W3 (w.heap.size + 1) (.func (.func 81) #[.pointer (some ⟨tb, 0, none⟩)] #[])
    have g2 := grownBy_setCell' (W3.setCell ⟨w.heap.size + 1, 0, none⟩ (.func (.func 81) #[.pointer (some ⟨tb, 0, none⟩)] #[])) (w.heap.size + 2) (.bool (farV comb))
    have y1 := (x1.set (.func (.func 81) #[.pointer (some ⟨tb, 0, none⟩)] #[])).kept g2 (by simp)
    have y2 := (x2.kept g1 (by simp)).set (.bool (farV comb))
    have c2' := (x2.kept g1 (by simp)).cell
    have f2' := (x2.kept g1 (by simp)).frozen
    have y0 := (x0.kept g1 (by simp)).kept g2 (by simp)
    have b9 := (b3.grown g1 b3.size (fun r e => by cases e; omega)).grown g2 (by have := g1.size; omega) (fun r e => by cases e; omega)
    have s9 : ((W3.setCell ⟨w.heap.size + 1, 0, none⟩ (.func (.func 81) #[.pointer (some ⟨tb, 0, none⟩)] #[])).setCell ⟨w.heap.size + 2, 0, none⟩ (.bool (farV comb))).heap.size = w.heap.size + 3 := by simp [World.setCell, s3]
    go_enter Try.func63, Try.ntmps63
    go_wp2_with fail
    refine hw.mono ?_
    clear hw
    rintro x w' ⟨rfl, rfl⟩
    go_wp2
    go_ret
    exact ⟨rfl, y0, y1, y2, b9, s9⟩
  by_cases h2 : comb = 3 ∨ comb = 4
  · have hF : wayF tb comb = .func (.func 87) #[.pointer (some ⟨tb, 0, none⟩)] #[] := by unfold wayF; rw [if_neg h1, if_pos h2]
    rw [hF] at hw ⊢
    clear hF
    have g1 := grownBy_setCell' W3 (w.heap.size + 1) (.func (.func 87) #[.pointer (some ⟨tb, 0, none⟩)] #[])
    have g2 := grownBy_setCell' (W3.setCell ⟨w.heap.size + 1, 0, none⟩ (.func (.func 87) #[.pointer (some ⟨tb, 0, none⟩)] #[])) (w.heap.size + 2) (.bool (farV comb))
    have y1 := (x1.set (.func (.func 87) #[.pointer (some ⟨tb, 0, none⟩)] #[])).kept g2 (by simp)
    have y2 := (x2.kept g1 (by simp)).set (.bool (farV comb))
    have c2' := (x2.kept g1 (by simp)).cell
    have f2' := (x2.kept g1 (by simp)).frozen
    have y0 := (x0.kept g1 (by simp)).kept g2 (by simp)
    have b9 := (b3.grown g1 b3.size (fun r e => by cases e; omega)).grown g2 (by have := g1.size; omega) (fun r e => by cases e; omega)
    have s9 : ((W3.setCell ⟨w.heap.size + 1, 0, none⟩ (.func (.func 87) #[.pointer (some ⟨tb, 0, none⟩)] #[])).setCell ⟨w.heap.size + 2, 0, none⟩ (.bool (farV comb))).heap.size = w.heap.size + 3 := by simp [World.setCell, s3]
    go_enter Try.func63, Try.ntmps63
    go_wp2_with fail
    refine hw.mono ?_
    clear hw
    rintro x w' ⟨rfl, rfl⟩
    go_wp2
    go_ret
    exact ⟨rfl, y0, y1, y2, b9, s9⟩
  · have hF : wayF tb comb = .func (.func 88) #[] #[] := by unfold wayF; rw [if_neg h1, if_neg h2]
    rw [hF] at hw ⊢
    clear hF
    have g1 := grownBy_setCell' W3 (w.heap.size + 1) (.func (.func 88) #[] #[])
    have g2 := grownBy_setCell' (W3.setCell ⟨w.heap.size + 1, 0, none⟩ (.func (.func 88) #[] #[])) (w.heap.size + 2) (.bool (farV comb))
    have y1 := (x1.set (.func (.func 88) #[] #[])).kept g2 (by simp)
    have y2 := (x2.kept g1 (by simp)).set (.bool (farV comb))
    have c2' := (x2.kept g1 (by simp)).cell
    have f2' := (x2.kept g1 (by simp)).frozen
    have y0 := (x0.kept g1 (by simp)).kept g2 (by simp)
    have b9 := (b3.grown g1 b3.size (fun r e => by cases e; omega)).grown g2 (by have := g1.size; omega) (fun r e => by cases e; omega)
    have s9 : ((W3.setCell ⟨w.heap.size + 1, 0, none⟩ (.func (.func 88) #[] #[])).setCell ⟨w.heap.size + 2, 0, none⟩ (.bool (farV comb))).heap.size = w.heap.size + 3 := by simp [World.setCell, s3]
    go_enter Try.func63, Try.ntmps63
    go_wp2_with fail
    refine hw.mono ?_
    clear hw
    rintro x w' ⟨rfl, rfl⟩
    go_wp2
    go_ret
    exact ⟨rfl, y0, y1, y2, b9, s9⟩

end Go.Proofs.Ytgjfapdnobhkcab.Mt
