/- What the elements of a tree tell of each other: plain facts. -/
import Derived.Test.YtgjfapdnobhkcabDmTell
import Derived.Test.YtgjfapdnobhkcabDmNew
namespace Go.Proofs.Ytgjfapdnobhkcab.Dm
open Go

theorem parent_of {es : List El} (hO : TreeOk es) {e i c : Nat} {q : El} (hq : es[e]? = some q) (hc : q.ch[i]? = some c) : parentV es (c : Int) = (e : Int) := by
  obtain ⟨r, h1, _, h3, _⟩ := hO.chs e q i c hq hc
  unfold parentV
  rw [elAt_yes h1]
  exact h3
theorem place_of {es : List El} (hO : TreeOk es) {e i c : Nat} {q : El} (hq : es[e]? = some q) (hc : q.ch[i]? = some c) : placeV es (c : Int) = (i : Int) + 1 := by
  obtain ⟨r, h1, _, _, h4⟩ := hO.chs e q i c hq hc
  unfold placeV
  rw [elAt_yes h1]
  show ((r.place : Nat) : Int) = _
  rw [h4]
  omega
theorem children_at {es : List El} {e : Nat} {q : El} (hq : es[e]? = some q) : childrenV es (e : Int) = q.ch := by
  unfold childrenV
  rw [elAt_yes hq]
  rfl
theorem before_at {es : List El} {c : Nat} {r : El} (h : es[c]? = some r) : beforeV es (c : Int) = sibV es c (-1) := by
  have hlt : c < es.length := (List.getElem?_eq_some_iff.1 h).1
  unfold beforeV
  rw [if_pos ⟨by omega, by omega⟩, Int.toNat_natCast]
theorem before_first {es : List El} (hO : TreeOk es) {e c : Nat} {q : El} (hq : es[e]? = some q) (hc : q.ch[0]? = some c) : beforeV es (c : Int) = -1 := by
  obtain ⟨r, h1, _, h3, h4⟩ := hO.chs e q 0 c hq hc
  rw [before_at h1, sibV_at h1, h3, if_neg (by omega), h4, nthI_no (by omega)]
theorem before_later {es : List El} (hO : TreeOk es) {e i c d : Nat} {q : El} (hq : es[e]? = some q) (hc : q.ch[i + 1]? = some c) (hd : q.ch[i]? = some d) : beforeV es (c : Int) = (d : Int) := by
  obtain ⟨r, h1, _, h3, h4⟩ := hO.chs e q (i + 1) c hq hc
  rw [before_at h1, sibV_at h1, h3, if_neg (by omega), h4, children_at hq, show ((i + 1 + 1 : Nat) : Int) - 1 + -1 = (i : Int) by omega, nthI_yes hd]
theorem newF_err : ∀ (l : List Nd) (es : List El) (x : Int), newF es l = .error x → x = 10 ∨ x = 11
  | [], _, _, h => by cases h
  | n :: l, es, x, h => by
    unfold newF at h
    cases ha : addV es n with
    | error y => rw [ha] at h; cases h; exact addV_err ha
    | ok e2 => rw [ha] at h; exact newF_err l e2 x h
theorem newV_err {l : List Nd} {x : Int} (h : newV l = .error x) : x = 3 ∨ x = 10 ∨ x = 11 := by
  unfold newV at h
  split at h
  · cases h; exact .inl rfl
  · exact .inr (newF_err l [] x h)
theorem sumCh_take {es : List El} {k : Nat} {q : El} (h : es[k]? = some q) : sumCh (es.take (k + 1)) = sumCh (es.take k) + q.ch.length := by
  obtain ⟨hk, rfl⟩ := List.getElem?_eq_some_iff.1 h
  rw [List.take_succ_eq_append_getElem hk, sumCh_append]
  simp [sumCh]
theorem sumCh_le {es : List El} (k : Nat) : sumCh (es.take k) ≤ sumCh es := by
  have := sumCh_append (es.take k) (es.drop k)
  rw [List.take_append_drop] at this
  omega

end Go.Proofs.Ytgjfapdnobhkcab.Dm
