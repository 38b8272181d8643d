/- Selectors one within another, and chains of parts over a path: plain facts; lists within each other in memory. -/
import Derived.Test.YtgjfapdnobhkcabMtTrees
import Derived.Test.YtgjfapdnobhkcabDmChain
namespace Go.Proofs.Ytgjfapdnobhkcab.Mt
open Go Go.RowKit Dm

/-! ### one within another -/
def isS : Nat → Sel
  | 0 => [(0, zeroCp)]
  | n + 1 => [(0, psCp (.mk 8 0 0 [isS n]))]
theorem isS_len : ∀ n, (isS n).length = 1
  | 0 => rfl
  | _ + 1 => rfl
theorem isS_fits : ∀ n, n < 13 → fitsV 8 (isS n) = decide (n ≤ 8) := by decide +kernel
theorem named_ps (n : Nd) (q : Ps) : namedV n (psCp q) = true := by simp [namedV, psCp, Cp.tag, Cp.ids, Cp.classes, Cp.attrs]
theorem named_zero (n : Nd) : namedV n zeroCp = true := by simp [namedV, zeroCp, Cp.tag, Cp.ids, Cp.classes, Cp.attrs]
theorem isS_sel (es : List El) (e : Nat) : ∀ n d, n ≤ d → selV (anyV es d) es (isS n) e = true
  | 0, d, _ => by
    show compV (anyV es d) es zeroCp e = true
    unfold compV
    rw [named_zero]
    rfl
  | n + 1, 0, h => absurd h (by omega)
  | n + 1, d + 1, h => by
    show compV (anyV es (d + 1)) es (psCp (.mk 8 0 0 [isS n])) e = true
    unfold compV
    rw [named_ps]
    show ([Ps.mk 8 0 0 [isS n]].all fun p => pseudoV (anyV es (d + 1)) es p e) = true
    have h1 : pseudoV (anyV es (d + 1)) es (.mk 8 0 0 [isS n]) e = anyV es (d + 1) [isS n] e := rfl
    have h2 : anyV es (d + 1) [isS n] e = (selV (anyV es d) es (isS n) e || false) := rfl
    simp only [List.all_cons, List.all_nil, Bool.and_true, h1, h2, Bool.or_false]
    exact isS_sel es e n d (by omega)
theorem isS_is (es : List El) (h0 : 0 < es.length) (n : Nat) (hn : n < 13) : selectorV es 0 (isS n) = decide (n ≤ 8) := by
  unfold selectorV
  rw [isS_fits n hn, decide_eq_true (by omega)]
  by_cases h : n ≤ 8
  · rw [decide_eq_true h, show (0 : Int).toNat = 0 from rfl, isS_sel es 0 n 8 h]
    rfl
  · rw [decide_eq_false h]
    rfl

/-! ### a chain over a path -/
def chS (p : Nat) : Sel := List.replicate p (2, zeroCp)
theorem chS_fits : ∀ p, p < 61 → fitsV 8 (chS p) = decide (p ≤ 50) := by decide +kernel
def pathOk (m : Nat) : Bool := match newV (chainN m) with
  | .ok es => decide (es.length = m) && (List.range m).all (fun e => decide (parentV es (e : Int) = (e : Int) - 1))
  | .error _ => false
theorem path_all : (List.range 41).all pathOk = true := by decide +kernel
theorem path_par {m : Nat} (hm : m < 41) : ∃ es, newV (chainN m) = .ok es ∧ es.length = m ∧ ∀ e, e < m → parentV es (e : Int) = (e : Int) - 1 := by
  have h := List.all_eq_true.1 path_all m (List.mem_range.2 hm)
  unfold pathOk at h
  split at h
  · rename_i es he
    simp only [Bool.and_eq_true, decide_eq_true_eq, List.all_eq_true, List.mem_range] at h
    exact ⟨es, he, h.1, h.2⟩
  · cases h
theorem chS_at {p k : Nat} (h : k < p) : partAt (chS p) k = (2, zeroCp) := partAt_eq (by simp [chS, h])
theorem chS_up {es : List El} (Q : Any) {m p : Nat} (hp : ∀ e, e < m → parentV es (e : Int) = (e : Int) - 1) : ∀ k e, k < p → e < m → uptoV Q es (chS p) k e = decide (k ≤ e)
  | 0, e, hk, _ => by
    show compV Q es (partAt (chS p) 0).2 e = _
    rw [chS_at hk]
    unfold compV
    rw [named_zero]
    simp [zeroCp, Cp.pss]
  | k + 1, e, hk, he => by
    show (compV Q es (partAt (chS p) (k + 1)).2 e && (aheadV es (partAt (chS p) (k + 1)).1 e).any (uptoV Q es (chS p) k)) = _
    rw [chS_at hk]
    have hc : compV Q es zeroCp e = true := by
      unfold compV
      rw [named_zero]
      rfl
    have ha : aheadV es 2 e = if parentV es (e : Int) = -1 then [] else [(parentV es (e : Int)).toNat] := rfl
    simp only [hc, ha, hp e he, Bool.true_and]
    by_cases h0 : e = 0
    · subst h0
      simp
    · rw [if_neg (by omega), show ((e : Int) - 1).toNat = e - 1 by omega]
      simp only [List.any_cons, List.any_nil, Bool.or_false]
      rw [chS_up Q hp k (e - 1) (by omega) (by omega)]
      rw [Bool.eq_iff_iff]
      simp
      omega
theorem chS_is {es : List El} {m p : Nat} (hp : ∀ e, e < m → parentV es (e : Int) = (e : Int) - 1) (hl : es.length = m) (h1 : 1 ≤ p) (h2 : p ≤ 60) (hm : m = min p 40) : selectorV es ((m : Int) - 1) (chS p) = decide (p ≤ 40) := by
  unfold selectorV
  rw [chS_fits p (by omega), decide_eq_true (by omega)]
  have h : selV (anyV es 8) es (chS p) ((m : Int) - 1).toNat = decide (p - 1 ≤ m - 1) := by
    unfold selV
    rw [show (chS p).length = p from List.length_replicate, decide_eq_true (by omega), show ((m : Int) - 1).toNat = m - 1 by omega, chS_up _ hp (p - 1) (m - 1) (by omega) (by omega)]
    rfl
  rw [h, Bool.true_and, Bool.eq_iff_iff]
  simp
  omega

/-! ### in memory: all in blocks that are not B -/
def DeepAt (B : Nat) : Nat → World → Value → Prop
  | 0, W, v => ∃ b, v = .slice (some ⟨b, 0, none⟩) 1 1 ∧ b ≠ B ∧ Blk W b 58 [.int .i64 0, .string ⟨#[]⟩, .slice none 0 0, .slice none 0 0, .slice none 0 0, .slice none 0 0]
  | i + 1, W, v => ∃ b1 b2 b3 v', v = .slice (some ⟨b1, 0, none⟩) 1 1 ∧ b1 ≠ B ∧ b2 ≠ B ∧ b3 ≠ B ∧ Blk W b1 58 [.int .i64 0, .string ⟨#[]⟩, .slice none 0 0, .slice none 0 0, .slice none 0 0, .slice (some ⟨b2, 0, none⟩) 1 1] ∧
      Blk W b2 54 [.int .i64 8, .int .i64 0, .int .i64 0, .slice (some ⟨b3, 0, none⟩) 1 1] ∧ Blk W b3 61 [v'] ∧ DeepAt B i W v'
theorem DeepAt.kept {B : Nat} : ∀ {i : Nat} {W X : World} {v : Value}, DeepAt B i W v → (∀ b, b ≠ B → b < W.heap.size → X.heap[b]? = W.heap[b]?) → DeepAt B i X v
  | 0, _, _, _, ⟨b, e, h, k⟩, hX => ⟨b, e, h, (hX b h k.lt).trans k⟩
  | _ + 1, _, _, _, ⟨b1, b2, b3, v', e, h1, h2, h3, k1, k2, k3, hd⟩, hX => ⟨b1, b2, b3, v', e, h1, h2, h3, (hX b1 h1 k1.lt).trans k1, (hX b2 h2 k2.lt).trans k2, (hX b3 h3 k3.lt).trans k3, hd.kept hX⟩
theorem DeepAt.form {B : Nat} : ∀ {i : Nat} {W : World} {v : Value}, DeepAt B i W v → ∃ b, v = .slice (some ⟨b, 0, none⟩) 1 1
  | 0, _, _, ⟨b, e, _⟩ => ⟨b, e⟩
  | _ + 1, _, _, ⟨b1, _, _, _, e, _⟩ => ⟨b1, e⟩
theorem sels_one {W : World} {B d : Nat} {x : Value} {s : Sel} (k : Blk W B 61 [x]) (h : PartsAt d W.heap.size W x s) : SelsAt (d + 1) W.heap.size W (.slice (some ⟨B, 0, none⟩) 1 1) [s] := by
  refine .inr ⟨B, 0, 1, rfl, Nat.le_refl _, by unfold maxLen; omega, k.lt, fun j y hy => ?_⟩
  have hj : j = 0 := by have := (List.getElem?_eq_some_iff.1 hy).1; simpa using this
  subst hj
  obtain rfl : s = y := by simpa using hy
  refine ⟨[x], rfl, ⟨x, rfl, h⟩, fun i u hu => ?_⟩
  have hi : i = 0 := by have := (List.getElem?_eq_some_iff.1 hu).1; simpa using this
  subst hi
  rw [cell_of_block (show W.heap[B]? = _ from k)]
  simpa using hu
theorem DeepAt.parts {B : Nat} : ∀ {i : Nat} {W : World} {v : Value}, DeepAt B i W v → PartsAt i W.heap.size W v (isS i)
  | 0, _, _, ⟨_, e, _, k⟩ => by subst e; exact parts_one k (cp_zero _ _ _) ⟨by decide, by decide⟩
  | i + 1, _, _, ⟨_, _, _, _, e, _, _, _, k1, k2, k3, hd⟩ => by
    subst e
    exact parts_one (c := psCp (.mk 8 0 0 [isS i])) k1 (cp_ps (q := .mk 8 0 0 [isS i]) k2 (sels_one k3 hd.parts) (show i64 8 from ⟨by decide, by decide⟩) (show i64 0 from ⟨by decide, by decide⟩) (show i64 0 from ⟨by decide, by decide⟩) (show 1 ≤ 8796093022208 by decide)) ⟨by decide, by decide⟩

end Go.Proofs.Ytgjfapdnobhkcab.Mt
