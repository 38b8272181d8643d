/- Matching in plain words: selectors as trees, and of which elements of a tree they are (chapter 10). -/
import Derived.Test.YtchfnnoabejlpabGreatDmGa
import Derived.Test.YtchfnnoabejlpabGreatTre
namespace Go.Proofs.YtchfnnoabejlpabGreat.Mt
open Go.Proofs.YtchfnnoabejlpabGreat.Tre
open Go Dm

def zeroCp : Cp := .mk ⟨#[]⟩ [] [] [] []
def partAt (s : Sel) (k : Nat) : Pt := s.getD k (0, zeroCp)
theorem partAt_eq {s : Sel} {k : Nat} {p : Pt} (h : s[k]? = some p) : partAt s k = p := by simp [partAt, List.getD, h]

/-! ### names -/
def bts (s : ByteArray) : List UInt8 := s.data.toList
def white (c : UInt8) : Bool := c == 9 || c == 10 || c == 12 || c == 13 || c == 32
/-- The words of a text: parted by white. -/
def wordsV : List UInt8 → List UInt8 → List (List UInt8)
  | acc, [] => if acc = [] then [] else [acc]
  | acc, c :: l => if white c then (if acc = [] then wordsV [] l else acc :: wordsV [] l) else wordsV (acc ++ [c]) l
def dashV (s t : List UInt8) : Bool := decide (s = t) || (t ++ [45]).isPrefixOf s
def infixV (t : List UInt8) : List UInt8 → Bool
  | [] => t.isPrefixOf []
  | c :: l => t.isPrefixOf (c :: l) || infixV t l
/-- Is a text of an attribute so? -/
def textV (s : ByteArray) (a : At) : Bool :=
  if a.op = 0 then true else if a.op = 1 then decide (s = a.text)
  else if a.op = 2 then (wordsV [] (bts s)).contains (bts a.text)
  else if a.op = 3 then dashV (bts s) (bts a.text)
  else if a.op = 4 then decide (bts a.text ≠ []) && (bts a.text).isPrefixOf (bts s)
  else if a.op = 5 then decide (bts a.text ≠ []) && (bts a.text).isSuffixOf (bts s)
  else if a.op = 6 then decide (bts a.text ≠ []) && infixV (bts a.text) (bts s)
  else false
/-- Has a node an attribute that is so? -/
def attrV (n : Nd) (a : At) : Bool := match n.ats.find? (fun p => decide (p.1 = a.name)) with
  | some p => textV p.2 a
  | none => false
/-- Has a node the tag, the ID, the classes and the attributes that a compound says? -/
def namedV (n : Nd) (c : Cp) : Bool :=
  ((decide (c.tag = ⟨#[]⟩) || decide (c.tag = n.tag)) && c.ids.all (fun i => decide (i ≠ ⟨#[]⟩) && decide (i = n.id))) && c.classes.all (fun k => n.cls.any (fun s => decide (s = k))) && c.attrs.all (attrV n)

/-! ### places -/
def inRowV (p a b : Int) : Bool := if 0 < a then decide (b ≤ p ∧ (p - b) % a = 0) else if a < 0 then decide (p ≤ b ∧ (b - p) % (-a) = 0) else decide (p = b)
def lastV (es : List El) (e : Int) : Bool := decide (parentV es e = -1) || decide (placeV es e = (childrenV es (parentV es e)).length)
def firstV (es : List El) (e : Int) : Bool := decide (placeV es e = 1)
def placedV (es : List El) (e : Int) (p : Ps) : Bool :=
  if p.kind = 1 then decide (parentV es e = -1) else if p.kind = 2 then firstV es e else if p.kind = 3 then lastV es e
  else if p.kind = 4 then firstV es e && lastV es e else if p.kind = 5 then decide ((childrenV es e).length = 0)
  else if p.kind = 6 then inRowV (placeV es e) p.a p.b else false

/-! ### compounds and selectors, given what lists are -/
/-- What lists answer. -/
abbrev Any := List Sel → Nat → Bool
def pseudoV (Q : Any) (es : List El) (p : Ps) (e : Nat) : Bool := if p.kind = 7 then !(Q p.list e) else if p.kind = 8 then Q p.list e else placedV es e p
def compV (Q : Any) (es : List El) (c : Cp) (e : Nat) : Bool := namedV (nodeV es e) c && c.pss.all (fun p => pseudoV Q es p e)
/-- Where a combinator leads, and whether it leads on. -/
def nextV (es : List El) (comb : Int) (x : Int) : Int := if comb = 1 ∨ comb = 2 then parentV es x else if comb = 3 ∨ comb = 4 then beforeV es x else -1
def farV (comb : Int) : Bool := decide (comb = 1 ∨ comb = 4)
/-- The elements ahead, the nearest one first. -/
def chain (es : List El) (comb : Int) : Nat → Int → List Nat
  | 0, _ => []
  | f + 1, x => if nextV es comb x = -1 then [] else (nextV es comb x).toNat :: (if farV comb then chain es comb f (nextV es comb x) else [])
def aheadV (es : List El) (comb : Int) (e : Nat) : List Nat := chain es comb (e + 1) e
/-- Is the selector of the parts up to k of e? -/
def uptoV (Q : Any) (es : List El) (s : Sel) : Nat → Nat → Bool
  | 0, e => compV Q es (partAt s 0).2 e
  | k + 1, e => compV Q es (partAt s (k + 1)).2 e && (aheadV es (partAt s (k + 1)).1 e).any (uptoV Q es s k)
def selV (Q : Any) (es : List El) (s : Sel) (e : Nat) : Bool := decide (0 < s.length) && uptoV Q es s (s.length - 1) e
/-- One of a list at least; lists stand so deep at most. -/
def anyV (es : List El) : Nat → Any
  | 0, _, _ => false
  | d + 1, l, e => l.any (fun s => selV (anyV es d) es s e)

/-! ### bounds -/
def listed (p : Ps) : Bool := decide (p.kind = 7) || decide (p.kind = 8)
/-- The lists of not and is that lie in it. -/
def listsV (s : Sel) : List (List Sel) := s.flatMap (fun p => (p.2.pss.filter listed).map Ps.list)
/-- May lists stand so deep in it, and has none more than 50 parts? -/
def fitsV : Nat → Sel → Bool
  | 0, s => decide (s.length ≤ 50) && (listsV s).all (fun _ => false)
  | d + 1, s => decide (s.length ≤ 50) && (listsV s).all (fun l => l.all (fitsV d))
/-- What match.Selector answers. -/
def selectorV (es : List El) (e : Int) (s : Sel) : Bool := decide (0 ≤ e ∧ e < es.length) && (fitsV 8 s && selV (anyV es 8) es s e.toNat)

end Go.Proofs.YtchfnnoabejlpabGreat.Mt

/- The elements ahead: plain facts. -/
namespace Go.Proofs.YtchfnnoabejlpabGreat.Mt
open Go.Proofs.YtchfnnoabejlpabGreat.Tre
open Go Dm

theorem parentV_lt {es : List El} (hO : TreeOk es) {k : Nat} (hk : k < es.length) : parentV es k = -1 ∨ ∃ j : Nat, parentV es k = j ∧ j < k := by
  have hq : es[k]? = some es[k] := List.getElem?_eq_getElem hk
  have hV : parentV es (k : Int) = es[k].nd.parent := by unfold parentV; rw [elAt_yes hq]; rfl
  rw [hV]
  rcases Nat.eq_zero_or_pos k with rfl | h0
  · exact .inl (hO.root _ hq).1
  · obtain ⟨p, q, h1, h2, _⟩ := hO.par k _ hq h0
    exact .inr ⟨p, h1, h2⟩
theorem beforeV_lt {es : List El} (hO : TreeOk es) {k : Nat} (hk : k < es.length) : beforeV es k = -1 ∨ ∃ j : Nat, beforeV es k = j ∧ j < k := by
  have hq : es[k]? = some es[k] := List.getElem?_eq_getElem hk
  unfold beforeV
  rw [if_pos ⟨by omega, by omega⟩, Int.toNat_natCast, sibV_at hq]
  rcases Nat.eq_zero_or_pos k with rfl | h0
  · rw [if_pos (hO.root _ hq).1]
    exact .inl rfl
  · obtain ⟨p, q, h1, h2, h3, _, h5, h6⟩ := hO.par k _ hq h0
    rw [if_neg (by omega), h1]
    have hc : childrenV es (p : Int) = q.ch := by unfold childrenV; rw [elAt_yes h3]; rfl
    rw [hc]
    by_cases hp : es[k].place = 1
    · exact .inl (nthI_no (by omega))
    · right
      have hi : ((es[k].place : Int) - 1 + -1) = ((es[k].place - 2 : Nat) : Int) := by omega
      rw [hi]
      have hlt := (List.getElem?_eq_some_iff.1 h6).1
      have hx : q.ch[es[k].place - 2]? = some (q.ch[es[k].place - 2]'(by omega)) := List.getElem?_eq_getElem (by omega)
      rw [nthI_yes hx]
      refine ⟨_, rfl, ?_⟩
      have hr := hO.rise p q h3
      rw [List.pairwise_iff_getElem] at hr
      have := hr (es[k].place - 2) (es[k].place - 1) (by omega) hlt (by omega)
      rwa [(List.getElem?_eq_some_iff.1 h6).2] at this
theorem nextV_lt {es : List El} (hO : TreeOk es) {k : Nat} (hk : k < es.length) (comb : Int) : nextV es comb k = -1 ∨ ∃ j : Nat, nextV es comb k = j ∧ j < k := by
  unfold nextV
  split
  · exact parentV_lt hO hk
  · split
    · exact beforeV_lt hO hk
    · exact .inl rfl
/-- What is still to come. -/
def restV (es : List El) (comb : Int) (f : Nat) (y : Int) : List Nat := if y = -1 then [] else y.toNat :: (if farV comb then chain es comb f y else [])
theorem chain_succ (es : List El) (comb : Int) (f : Nat) (x : Int) : chain es comb (f + 1) x = restV es comb f (nextV es comb x) := rfl
theorem restV_end (es : List El) (comb : Int) (f : Nat) : restV es comb f (-1) = [] := if_pos rfl
theorem restV_at (es : List El) (comb : Int) (f j : Nat) : restV es comb f (j : Int) = j :: (if farV comb then chain es comb f j else []) := by
  unfold restV
  rw [if_neg (by omega), Int.toNat_natCast]

theorem chain_fuel {es : List El} (hO : TreeOk es) (comb : Int) : ∀ (f y : Nat), y < es.length → y < f → chain es comb f y = chain es comb (y + 1) y := by
  intro f
  induction f using Nat.strongRecOn with
  | _ f ih =>
    intro y hy hf
    obtain ⟨f', rfl⟩ : ∃ f', f = f' + 1 := ⟨f - 1, by omega⟩
    rw [chain_succ, chain_succ]
    rcases nextV_lt hO hy comb with h | ⟨j, h, hj⟩
    · rw [h, restV_end, restV_end]
    · rw [h, restV_at, restV_at, ih f' (by omega) j (by omega) (by omega)]
      by_cases hy0 : y = f'
      · rw [hy0, ih f' (by omega) j (by omega) (by omega)]
      · rw [ih y (by omega) j (by omega) (by omega)]
theorem chain_tail {es : List El} (hO : TreeOk es) (comb : Int) : ∀ (f x : Nat) (a : List Nat) (y : Nat) (b : List Nat), x < es.length → x < f → chain es comb f x = a ++ y :: b → y < es.length ∧ b = if farV comb then aheadV es comb y else [] := by
  intro f
  induction f with
  | zero => intro x a y b _ h; omega
  | succ f ih =>
    intro x a y b hx hf h
    rw [chain_succ] at h
    rcases nextV_lt hO hx comb with hn | ⟨j, hn, hj⟩
    · rw [hn, restV_end] at h
      simp at h
    · rw [hn, restV_at] at h
      cases a with
      | nil =>
        simp only [List.nil_append, List.cons.injEq] at h
        obtain ⟨rfl, rfl⟩ := h
        refine ⟨by omega, ?_⟩
        cases hfar : farV comb with
        | false => simp
        | true => simp only [if_true]; exact chain_fuel hO comb f j (by omega) (by omega)
      | cons z a =>
        simp only [List.cons_append, List.cons.injEq] at h
        obtain ⟨_, h⟩ := h
        cases hfar : farV comb with
        | false => rw [hfar] at h; simp at h
        | true =>
          rw [hfar, if_pos rfl] at h
          have := ih j a y b (by omega) (by omega) h
          rwa [hfar] at this
theorem ahead_tail {es : List El} (hO : TreeOk es) {comb : Int} {e y : Nat} {a b : List Nat} (he : e < es.length) (h : aheadV es comb e = a ++ y :: b) : y < es.length ∧ b = if farV comb then aheadV es comb y else [] :=
  chain_tail hO comb (e + 1) e a y b he (Nat.lt_succ_self _) h
theorem ahead_next {es : List El} (hO : TreeOk es) {comb : Int} {e : Nat} (he : e < es.length) : aheadV es comb e = if nextV es comb e = -1 then [] else (nextV es comb e).toNat :: (if farV comb then aheadV es comb (nextV es comb e).toNat else []) := by
  unfold aheadV
  rw [chain_succ]
  rcases nextV_lt hO he comb with hn | ⟨j, hn, hj⟩
  · rw [hn, restV_end, if_pos rfl]
  · rw [hn, restV_at, if_neg (show ¬ ((j : Int) = -1) by omega), Int.toNat_natCast]
    cases hfar : farV comb with
    | false => rfl
    | true => simp only [if_true]; rw [chain_fuel hO comb e j (by omega) (by omega)]

end Go.Proofs.YtchfnnoabejlpabGreat.Mt
