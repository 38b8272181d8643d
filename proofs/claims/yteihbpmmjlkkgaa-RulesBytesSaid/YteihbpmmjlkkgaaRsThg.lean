/- rules.things as an iterator, rules.upTo at every place of a slice of tokens that is not too long. -/
import Derived.Test.YteihbpmmjlkkgaaRsSkip
import Derived.Test.YteihbpmmjlkkgaaBsA
import Derived.Test.YteihbpmmjlkkgaaBsB
import Derived.RangeFuncBox
namespace Go.Proofs.Yteihbpmmjlkkgaa
open Go Go.RowKit Go.Shelf
attribute [local go_sem] Oper.semAt_some

/-! ### where things begin -/
def startsF (ks : List Int) : Nat → Nat → List Nat
  | 0, _ => []
  | f + 1, i => if i < ks.length then i :: startsF ks f (i + run [] (ks.drop i)) else []
def starts (ks : List Int) (i : Nat) : List Nat := startsF ks (ks.length - i) i
theorem run_drop_pos {ks : List Int} {i : Nat} (h : i < ks.length) : 0 < run [] (ks.drop i) := by
  rw [List.drop_eq_getElem_cons h]
  exact run_pos _ _ _
theorem run_drop_le (ks : List Int) (i : Nat) : run [] (ks.drop i) ≤ ks.length - i := by
  have := run_le [] (ks.drop i)
  rwa [List.length_drop] at this
theorem startsF_more (ks : List Int) : ∀ (f g i : Nat), ks.length - i ≤ f → ks.length - i ≤ g → startsF ks f i = startsF ks g i
  | 0, 0, _, _, _ => rfl
  | 0, g + 1, i, hf, _ => by rw [startsF, startsF, if_neg (by omega)]
  | f + 1, 0, i, _, hg => by rw [startsF, startsF, if_neg (by omega)]
  | f + 1, g + 1, i, hf, hg => by
    rw [startsF, startsF]
    by_cases h : i < ks.length
    · have := run_drop_pos h
      rw [if_pos h, if_pos h, startsF_more ks f g _ (by omega) (by omega)]
    · rw [if_neg h, if_neg h]
theorem starts_in {ks : List Int} {i : Nat} (h : i < ks.length) : starts ks i = i :: starts ks (i + run [] (ks.drop i)) := by
  have := run_drop_pos h
  unfold starts
  rw [show ks.length - i = (ks.length - i - 1) + 1 by omega, startsF, if_pos h, startsF_more ks _ (ks.length - (i + run [] (ks.drop i))) _ (by omega) (Nat.le_refl _)]
theorem starts_out {ks : List Int} {i : Nat} (h : ks.length ≤ i) : starts ks i = [] := by
  unfold starts
  rw [show ks.length - i = 0 by omega]
  rfl
def kd (ks : List Int) (x : Nat) : Int := (ks[x]?).getD 0
theorem upto_starts (p : Int → Bool) (ks : List Int) : ∀ (n i : Nat), ks.length - i ≤ n → i ≤ ks.length → i + upto p (ks.drop i) = ((starts ks i).find? fun x => p (kd ks x)).getD ks.length
  | 0, i, hn, hi => by
    have e : i = ks.length := by omega
    rw [starts_out (by omega), List.drop_eq_nil_iff.2 (by omega), upto_nil, e]
    rfl
  | n + 1, i, hn, hi => by
    by_cases h : i < ks.length
    · have hp := run_drop_pos h
      have hl := run_drop_le ks i
      have ih := upto_starts p ks n (i + run [] (ks.drop i)) (by omega) (by omega)
      rw [starts_in h, List.find?_cons]
      have hk : kd ks i = ks[i] := by simp [kd, h]
      have hd := List.drop_eq_getElem_cons h
      cases hc : p ks[i] with
      | true =>
        rw [hk, hc, hd, upto_cons, hc]
        simp
      | false =>
        rw [hk, hc]
        show _ = ((starts ks (i + run [] (ks.drop i))).find? fun x => p (kd ks x)).getD ks.length
        rw [← ih, ← List.drop_drop]
        conv => lhs; rw [hd, upto_cons, hc, if_neg (by decide), ← hd]
        omega
    · have e : i = ks.length := by omega
      rw [starts_out (by omega), List.drop_eq_nil_iff.2 (by omega), upto_nil, e]
      rfl

/-! ### the iterator -/
theorem grown_of_below' {w w' : World} (h : Below w.heap.size w w') (row : Option Nat) : w.grownBy w' row := ⟨h.os, h.tape, h.output, h.size, fun i hi _ => h.block i hi⟩

set_option maxRecDepth 100000 in
set_option maxHeartbeats 2000000 in
theorem things1_in (n l Bi Bv n₀ : Nat) (v : Value) (ts : List Bt) (i : Nat) (J Jx : List Nat → World → Prop) (W : World) (_hBi : Bi < n₀) (hBv : Bv < n₀) (hn₀ : n₀ ≤ W.heap.size)
    (hJ : AbidesIn W.heap.size W.heap.size J)
    (hY : ∀ pre x W1, J pre W1 → (∃ rest, pre ++ x :: rest = starts (kds ts) i) → W.heap.size ≤ W1.heap.size → YieldAt Fence.wide (n - 1) Try.prog l #[.int .i64 (x : Nat)] W1 fun e W' => (e = .returned (.bool true) ∧ J (pre ++ [x]) W' ∧ Below n₀ W1 W') ∨ (e = .returned (.bool false) ∧ Jx (pre ++ [x]) W'))
    (hci : W.cell? ⟨Bi, 0, none⟩ = some (.int .i64 i)) (hcv : W.cell? ⟨Bv, 0, none⟩ = some v) (hv : BtsAt n₀ W v ts) (hi : i ≤ ts.length) (hl : ts.length ≤ 1000000) (h0 : J [] W) :
    CallsIn Fence.wide n Try.prog 42 #[.func (.yield l) #[] #[], .pointer (some ⟨Bi, 0, none⟩), .pointer (some ⟨Bv, 0, none⟩)] W fun e W' => (∃ v, e = .returned v) ∧ ((∃ xs, xs = starts (kds ts) i ∧ J xs W') ∨ (∃ pre, True ∧ Jx pre W')) := by
  obtain ⟨p, cap, rfl⟩ := hv.len
  refine callsIn_of_wp Try.func42 rfl trivial ?_ rfl
  simp only [Try.ntmps42, List.size_toArray, List.length_cons, List.length_nil, Nat.reduceAdd, Nat.reduceSub, Array.replicate_succ, Array.replicate_zero, List.push_toArray, List.append_toArray, List.nil_append, List.cons_append]
  gi_wp2
  gi_loopw [4] (fun x wr => ∃ (k : Nat) (pre : List Nat), x = .int .i64 k ∧ k ≤ ts.length ∧ starts (kds ts) i = pre ++ starts (kds ts) k ∧ J pre wr ∧ Below n₀ W wr) (fun x _ => ts.length - (intOf x).toNat)
  case atStart => exact ⟨i, [], rfl, hi, rfl, h0, Below.refl _ _⟩
  case round =>
    clear hci
    obtain ⟨k, pre, rfl, hk, hx, hJs, hb⟩ := hrel
    have hcv' := (hb.cell (p := ⟨Bv, 0, none⟩) hBv).trans hcv
    have hkl := kds_length ts
    by_cases hlt : k < ts.length
    · have hki : (k : Int) < (ts.length : Int) := by omega
      have hst := starts_in (ks := kds ts) (i := k) (by omega)
      have hrp := run_drop_pos (ks := kds ts) (i := k) (by omega)
      have hrl := run_drop_le (kds ts) k
      obtain ⟨fn, tmps, assign, body, hy, hR⟩ := hY pre k wr hJs ⟨_, by rw [hx, hst]⟩ hb.size
      have HX : Hid (starts (kds ts) i = (pre ++ [k]) ++ starts (kds ts) (k + run [] ((kds ts).drop k))) := by
        show _ = _
        rw [hx, hst]
        simp
      clear hx hst hY
      gi_wp2_with fail
      refine ⟨fun h => (by cases h), hR.mono ?_⟩
      rintro e w2 (⟨rfl, hJ2, hb2⟩ | ⟨rfl, hJ2⟩)
      · have hcv2 := (hb2.cell (p := ⟨Bv, 0, none⟩) hBv).trans hcv'
        have hB2 := hb.trans hb2
        have hsk := skip_in (.slice p ts.length cap) ts k w2 ((hv.below hB2).mono (Nat.le_trans hn₀ hB2.size)) hlt hl
        generalize run [] ((kds ts).drop k) = m at *
        gi_wp2_with fail
        refine ⟨trivial, fun h => (by cases h), ?_⟩
        refine (callsIn_wide.2 hsk).mono ?_
        clear hsk
        rintro e w3 ⟨rfl, hb3⟩
        have hJ3 : J (pre ++ [k]) w3 := hJ _ w2 w3 none hJ2 (grown_of_below' hb3 none) (fun _ e => by cases e)
        gi_wp2
        go_roundw
        case rel => exact ⟨k + m, pre ++ [k], rfl, by omega, HX, hJ3, hB2.trans (hb3.mono (Nat.le_trans hn₀ hB2.size))⟩
        case measure => simp [intOf]; omega
      · gi_wp2
        refine bodyPost_ret (results_none rfl _ _ _) rfl ?_
        exact ⟨⟨_, rfl⟩, .inr ⟨_, trivial, hJ2⟩⟩
    · have hki : ¬ (k : Int) < (ts.length : Int) := by omega
      have e : starts (kds ts) i = pre := by rw [hx, starts_out (by omega), List.append_nil]
      have HE : Hid (_ = _) := e
      clear hx e
      gi_wp2
      go_end0
      refine ⟨⟨_, rfl⟩, .inl ?_⟩
      first
        | exact ⟨pre, (show _ = _ from HE).symm, hJs⟩
        | (rw [show starts (kds ts) i = pre from HE]; exact hJs)

theorem things_in (n : Nat) (v : Value) (i : Int) (w : World) (hv : v.oneCell' = true) :
    CallsIn Fence.wide n Try.prog 32 #[v, .int .i64 i] w fun e w' => e = .returned (.func (.func 42) #[] #[.pointer (some ⟨w.heap.size + 1, 0, none⟩), .pointer (some ⟨w.heap.size, 0, none⟩)]) ∧ w' = (w.alloc (.cells #[v] 22)).alloc (.cells #[.int .i64 i] 3) := by
  refine callsIn_of_wp Try.func32 rfl trivial ?_ rfl
  simp only [Try.ntmps32, List.size_toArray, List.length_cons, List.length_nil, Nat.reduceAdd, Nat.reduceSub, Array.replicate_succ, Array.replicate_zero, List.push_toArray, List.append_toArray, List.nil_append, List.cons_append]
  gi_wp2
  go_ret
  exact ⟨rfl, rfl⟩

theorem things_seq (n Bi Bv n₀ : Nat) (v : Value) (ts : List Bt) (i : Nat) (w : World) (hBi : Bi < n₀) (hBv : Bv < n₀) (hn₀ : n₀ ≤ w.heap.size)
    (hci : w.cell? ⟨Bi, 0, none⟩ = some (.int .i64 i)) (hcv : w.cell? ⟨Bv, 0, none⟩ = some v) (hv : BtsAt n₀ w v ts) (hi : i ≤ ts.length) (hl : ts.length ≤ 1000000) :
    SeqZ Fence.wide n Try.prog 42 #[.pointer (some ⟨Bi, 0, none⟩), .pointer (some ⟨Bv, 0, none⟩)] (fun x : Nat => #[.int .i64 x]) n₀ (fun xs => xs = starts (kds ts) i) (fun _ => True) (fun pre x => ∃ rest, pre ++ x :: rest = starts (kds ts) i) 0 w := fun l J Jx W hW hJ _ hY h0 =>
  things1_in n l Bi Bv n₀ v ts i J Jx W hBi hBv (Nat.le_trans hn₀ hW.size) hJ
    (fun pre x W1 h1 h2 h3 => (hY pre x W1 h1 h2 h3).mono (fun _ _ h => h.elim (fun h => .inl ⟨h.1, h.2.1, h.2.2.below⟩) (fun h => .inr h)))
    ((hW.cell (p := ⟨Bi, 0, none⟩) (by simp; omega)).trans hci) ((hW.cell (p := ⟨Bv, 0, none⟩) (by simp; omega)).trans hcv) (hv.below (hW.mono hn₀)) hi hl h0

/-! ### is a kind among those that are looked for? -/
set_option maxRecDepth 100000 in
set_option maxHeartbeats 1000000 in
theorem index_any (v : Value) (l : List Int) (x : Int) (w : World) (hv : IntsAt w.heap.size w v l) (hl : l.length ≤ 1000000) :
    Calls Try.prog 43 #[v, .int .i64 x] w fun e w' => (∃ r : Int, e = .returned (.int .i64 r) ∧ decide (0 ≤ r) = l.contains x) ∧ w' = w := by
  obtain ⟨p, cap, rfl⟩ := hv.len
  obtain ⟨B, hB⟩ : ∃ B, l.contains x = B := ⟨_, rfl⟩
  rw [hB]
  go_enter Try.func43, Try.ntmps43
  go_wp2
  go_loopw [8] (fun y wr => ∃ k : Nat, y = .int .i64 k ∧ k ≤ l.length ∧ (l.take k).contains x = false ∧ wr = w) (fun y _ => l.length - (intOf y).toNat)
  case atStart => exact ⟨0, rfl, Nat.zero_le _, rfl, rfl⟩
  case round =>
    obtain ⟨k, rfl, hk, hn, rfl⟩ := hrel
    by_cases hlt : k < l.length
    · have hki : (k : Int) < (l.length : Int) := by omega
      obtain ⟨bk, off, hp, hcell⟩ : ∃ bk off, p = some ⟨bk, off, none⟩ ∧ ∀ j u, l[j]? = some u → wr.cell? ⟨bk, off + j, none⟩ = some (.int .i64 u) := by
        rcases hv with ⟨rfl, _⟩ | ⟨bk, off, c, e, _, _, _, h⟩
        · simp at hlt
        · cases e; exact ⟨bk, off, rfl, h⟩
      subst hp
      have c0 := hcell k _ (List.getElem?_eq_getElem hlt)
      by_cases hx : x = l[k]
      · have hin : l.contains x = true := by rw [hx]; simp
        obtain rfl : B = true := hB.symm.trans hin
        clear hcell hv hn hB hin
        generalize l[k] = u at *
        subst hx
        go_wp2
        go_ret
        exact ⟨⟨_, rfl, by simp⟩, rfl⟩
      · have hx' : (x == l[k]) = false := by simpa using hx
        have HN : Hid ((l.take (k + 1)).contains x = false) := by
          show _ = _
          rw [List.take_succ_eq_append_getElem hlt]
          simp only [List.contains_eq_any_beq, List.any_append, List.any_cons, List.any_nil, Bool.or_false] at hn ⊢
          rw [hn, Bool.false_or]
          exact hx'
        have HB : Hid (l.contains x = B) := hB
        clear hcell hv hn hB
        generalize l[k] = u at *
        go_wp2
        exact ⟨⟨k + 1, by go_num, by omega, HN, by first | rfl | trivial⟩, by simp [intOf]; omega⟩
    · have hki : ¬ (k : Int) < (l.length : Int) := by omega
      rw [List.take_of_length_le (by omega)] at hn
      obtain rfl : B = false := hB.symm.trans hn
      clear hn hv hB
      go_wp2
      go_ret
      exact ⟨⟨-1, rfl, by decide⟩, rfl⟩
theorem contains_any (v : Value) (l : List Int) (x : Int) (w : World) (hv : IntsAt w.heap.size w v l) (hl : l.length ≤ 1000000) :
    Calls Try.prog 33 #[v, .int .i64 x] w fun e w' => e = .returned (.bool (l.contains x)) ∧ w' = w := by
  have h := index_any v l x w hv hl
  obtain ⟨p, cap, rfl⟩ := hv.len
  generalize l.contains x = B at *
  go_enter Try.func33, Try.ntmps33
  go_wp2_with fail
  refine h.mono ?_
  rintro e w' ⟨⟨r, rfl, hr⟩, rfl⟩
  subst hr
  go_wp2
  go_ret
  exact ⟨rfl, rfl⟩

end Go.Proofs.Yteihbpmmjlkkgaa
