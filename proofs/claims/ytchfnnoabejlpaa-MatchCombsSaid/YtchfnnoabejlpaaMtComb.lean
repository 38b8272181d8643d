/- What each combinator asks of the element ahead: plain facts. -/
import Derived.Test.YtchfnnoabejlpaaMtSame
import Derived.Test.YtchfnnoabejlpaaMtGe
import Derived.Test.YtchfnnoabejlpaaMtBoth
namespace Go.Proofs.Ytchfnnoabejlpaa.Mt
open Go.Proofs.Ytchfnnoabejlpaa.Tre
open Go Go.RowKit Dm Go.Proofs.Ytchfnnoabejlpaa.Wg

/-- Stands x where the combinator wants it, of e? -/
def standV (es : List El) (comb : Int) (e x : Nat) : Bool := (aheadV es comb e).contains x
theorem before_before {es : List El} (hO : TreeOk es) : ∀ (m e : Nat), e < m → e < es.length → ∀ x, x < es.length → (x ∈ aheadV es 4 e ↔ (0 < e ∧ 0 < x ∧ x < e ∧ parentV es (e : Int) = parentV es (x : Int)))
  | 0, _, h, _, _, _ => absurd h (Nat.not_lt_zero _)
  | m + 1, e, hm, he, x, hx => by
    rw [ahead_next hO he, show nextV es 4 (e : Int) = beforeV es (e : Int) from rfl, show farV 4 = true from rfl, if_pos rfl]
    by_cases h0 : e = 0
    · subst h0
      rcases beforeV_lt hO he with hb | ⟨j, _, hj⟩
      · rw [hb, if_pos rfl]
        simp
      · omega
    · obtain ⟨q, hq⟩ : ∃ q, es[e]? = some q := ⟨_, List.getElem?_eq_getElem he⟩
      obtain ⟨p, r, hp, hlt, hr, _, hpl, hc⟩ := hO.par e q hq (by omega)
      have hpe : parentV es (e : Int) = (p : Int) := (par_at hq).trans hp
      -- who has that parent stands in its row
      have inRow : ∀ y, 0 < y → y < es.length → parentV es (y : Int) = (p : Int) → ∃ j, r.ch[j]? = some y := fun y hy hyl hyp => by
        obtain ⟨qy, hqy⟩ : ∃ q, es[y]? = some q := ⟨_, List.getElem?_eq_getElem hyl⟩
        obtain ⟨p', r', hp', _, hr', _, _, hc'⟩ := hO.par y qy hqy hy
        have : (p' : Int) = (p : Int) := hp'.symm.trans ((par_at hqy).symm.trans hyp)
        obtain rfl : p' = p := by omega
        obtain rfl : r' = r := Option.some.inj (hr'.symm.trans hr)
        exact ⟨_, hc'⟩
      have rise : ∀ i j a b, r.ch[i]? = some a → r.ch[j]? = some b → i < j → a < b := fun i j a b ha hb hij => by
        obtain ⟨hi, rfl⟩ := List.getElem?_eq_some_iff.1 ha
        obtain ⟨hj, rfl⟩ := List.getElem?_eq_some_iff.1 hb
        exact List.pairwise_iff_getElem.1 (hO.rise p r hr) i j hi hj hij
      obtain ⟨i, hi⟩ : ∃ i, q.place - 1 = i := ⟨_, rfl⟩
      rw [hi] at hc
      cases i with
      | zero =>
        rw [before_first hO hr hc, if_pos rfl]
        constructor
        · intro h; simp at h
        · rintro ⟨_, hx0, hxe, hpx⟩
          obtain ⟨j, hj⟩ := inRow x hx0 hx (hpx ▸ hpe)
          cases j with
          | zero => rw [hj] at hc; have := Option.some.inj hc; omega
          | succ j => have := rise 0 (j + 1) _ _ hc hj (by omega); omega
      | succ i =>
        obtain ⟨y, hy⟩ : ∃ y, r.ch[i]? = some y := ⟨_, List.getElem?_eq_getElem (by have := (List.getElem?_eq_some_iff.1 hc).1; omega)⟩
        have hye := rise i (i + 1) _ _ hy hc (by omega)
        obtain ⟨qy, hqy, hpy, hpy2, _⟩ := hO.chs p r i y hr hy
        have hyp : parentV es (y : Int) = (p : Int) := (par_at hqy).trans hpy2
        rw [before_later hO hr hc hy, if_neg (by omega), Int.toNat_natCast, List.mem_cons, before_before hO m y (by omega) (by omega) x hx]
        constructor
        · rintro (rfl | ⟨_, h2, h3, h4⟩)
          · exact ⟨by omega, by omega, hye, hpe.trans hyp.symm⟩
          · exact ⟨by omega, h2, by omega, hpe.trans (hyp.symm.trans h4)⟩
        · rintro ⟨_, hx0, hxe, hpx⟩
          obtain ⟨j, hj⟩ := inRow x hx0 hx (hpx ▸ hpe)
          by_cases hji : j = i
          · subst hji
            rw [hy] at hj
            exact .inl (Option.some.inj hj).symm
          · have hlt2 : j < i := by
              rcases Nat.lt_or_ge j i with h | h
              · exact h
              · by_cases hj1 : j = i + 1
                · subst hj1; rw [hj] at hc; have := Option.some.inj hc; omega
                · have := rise (i + 1) j _ _ hc hj (by omega); omega
            have := rise j i _ _ hj hy hlt2
            exact .inr ⟨by omega, hx0, this, hyp.trans (hpe.symm.trans hpx)⟩
theorem stand_after {es : List El} (hO : TreeOk es) {e x : Nat} (he : e < es.length) (hx : x < es.length) : standV es 4 e x = (decide (0 < e) && decide (0 < x) && decide (x < e) && decide (parentV es (e : Int) = parentV es (x : Int))) := by
  unfold standV
  rw [Bool.eq_iff_iff, List.contains_iff_mem, before_before hO (e + 1) e (by omega) he x hx]
  simp only [Bool.and_eq_true, decide_eq_true_eq, and_assoc]
theorem stand_one {es : List El} (hO : TreeOk es) {e x : Nat} (he : e < es.length) (comb : Int) (hf : farV comb = false) : standV es comb e x = (nextV es comb (e : Int) == (x : Int)) := by
  unfold standV
  rw [ahead_next hO he, hf]
  rcases nextV_lt hO he comb with hn | ⟨j, hn, hj⟩
  · rw [hn, if_pos rfl, Bool.eq_iff_iff]
    simp only [List.contains_nil, beq_iff_eq]
    constructor
    · intro h; cases h
    · intro h; omega
  · rw [hn, if_neg (by omega), Int.toNat_natCast, Bool.eq_iff_iff]
    simp only [List.contains_cons, List.contains_nil, Bool.or_false, beq_iff_eq, Bool.false_eq_true, if_false]
    omega
theorem stand_child {es : List El} (hO : TreeOk es) {e x : Nat} (he : e < es.length) : standV es 2 e x = (parentV es (e : Int) == (x : Int)) := stand_one hO he 2 rfl
theorem stand_next {es : List El} (hO : TreeOk es) {e x : Nat} (he : e < es.length) : standV es 3 e x = (beforeV es (e : Int) == (x : Int)) := stand_one hO he 3 rfl
theorem stand_none {es : List El} (hO : TreeOk es) {e x : Nat} (he : e < es.length) {comb : Int} (h1 : comb ≠ 1) (h2 : comb ≠ 2) (h3 : comb ≠ 3) (h4 : comb ≠ 4) : standV es comb e x = false := by
  unfold standV
  rw [ahead_next hO he, show nextV es comb (e : Int) = -1 by unfold nextV; simp [h1, h2, h3, h4], if_pos rfl]
  rfl
/-- The way up from an element on: is x on it? -/
def upOn (es : List El) (x : Nat) (p : Int) : Bool := if p < 0 then false else (p == (x : Int)) || standV es 1 p.toNat x
theorem stand_up {es : List El} (hO : TreeOk es) {e : Nat} (he : e < es.length) (x : Nat) : standV es 1 e x = upOn es x (parentV es (e : Int)) := by
  unfold standV upOn
  rw [ahead_next hO he, show nextV es 1 (e : Int) = parentV es (e : Int) from rfl, show farV 1 = true from rfl, if_pos rfl]
  rcases parentV_lt hO he with hn | ⟨j, hn, hj⟩
  · rw [hn, if_pos rfl, if_pos (by decide)]
    rfl
  · rw [hn, if_neg (by omega), if_neg (by omega), Int.toNat_natCast]
    unfold standV
    rw [List.contains_cons]
    congr 1
    rw [Bool.eq_iff_iff]
    simp only [beq_iff_eq]
    omega
theorem up_step {es : List El} (hO : TreeOk es) {k : Nat} (hk : k < es.length) (x : Nat) : upOn es x (k : Int) = (((k : Int) == (x : Int)) || upOn es x (parentV es (k : Int))) := by
  rw [← stand_up hO hk x]
  unfold upOn
  rw [if_neg (by omega), Int.toNat_natCast]
theorem up_end (es : List El) (x : Nat) (p : Int) (hp : p < 0) : upOn es x p = false := if_pos hp

/-! ### the selector of two parts -/
def twoS (a : Cp) (comb : Int) (b : Cp) : Sel := [(0, a), (comb, b)]
theorem two_not_deep {a b : Cp} {comb : Int} (h : deepS 8 (twoS a comb b) = false) : deepC 8 a = false ∧ deepC 8 b = false := by
  rw [deepS_eq] at h
  simpa [twoS] using h
theorem ahead_in {es : List El} (hO : TreeOk es) {e : Nat} (he : e < es.length) (comb : Int) : ∀ x ∈ aheadV es comb e, x < es.length := fun x hx => by
  obtain ⟨a, b, h⟩ := List.append_of_mem hx
  exact (ahead_tail hO he h).1
theorem two_sel {es : List El} (hO : TreeOk es) {e : Nat} (he : e < es.length) {a b : Cp} {comb : Int} (h : deepS 8 (twoS a comb b) = false) :
    selectorV es (e : Int) (twoS a comb b) = (((List.range es.length).any (fun x => standV es comb e x && compoundV es (x : Int) a)) && compoundV es (e : Int) b) := by
  obtain ⟨ha, hb⟩ := two_not_deep h
  unfold selectorV
  rw [fits_deep, h, decide_eq_true (show (0 : Int) ≤ (e : Int) ∧ (e : Int) < (es.length : Int) by omega), Bool.true_and, Int.toNat_natCast, cmp_not_deep es e he b hb]
  have h1 : selV (anyV es 8) es (twoS a comb b) e = (compV (anyV es 8) es b e && (aheadV es comb e).any (fun x => compV (anyV es 8) es a x)) := rfl
  rw [h1, Bool.and_comm (compV _ _ _ _)]
  show (true && _) = _
  rw [Bool.true_and]
  congr 1
  rw [Bool.eq_iff_iff, List.any_eq_true, List.any_eq_true]
  constructor
  · rintro ⟨x, hx, hc⟩
    have hxl := ahead_in hO he comb x hx
    refine ⟨x, List.mem_range.2 hxl, ?_⟩
    rw [cmp_not_deep es x hxl a ha, hc, Bool.and_true]
    exact List.contains_iff_mem.2 hx
  · rintro ⟨x, hx, hc⟩
    rw [Bool.and_eq_true] at hc
    refine ⟨x, List.contains_iff_mem.1 hc.1, ?_⟩
    rw [← cmp_not_deep es x (List.mem_range.1 hx) a ha]
    exact hc.2
theorem any_more (f : Nat → Bool) (k : Nat) : (List.range (k + 1)).any f = ((List.range k).any f || f k) := by
  rw [List.range_succ, List.any_append]
  simp

end Go.Proofs.Ytchfnnoabejlpaa.Mt
