/- The iterator tok.tokens, at every slice of code points: it tells the tokens, one by one, and keeps a reader in memory. -/
import Derived.Test.YtlgfmncflnipgaaDoorTkOne
import Derived.Test.YtlgfmncflnipgaaDoorBsB
namespace Go.Proofs.YtlgfmncflnipgaaDoor
open Go Go.RowKit Go.Shelf
attribute [local go_sem] Oper.semAt_some

theorem At.keeps {n₀ R : Nat} {X Y : World} {raw l : List Int} (h : At n₀ X R raw l) (hk : KeepsIn n₀ R (R + 1) X Y) : At n₀ Y R raw l := by
  obtain ⟨v, a, hr, e⟩ := h
  exact ⟨v, a, ⟨(hk.own R (Nat.le_refl _) (by omega)).trans hr.pair, hr.ints.below hk.below, hr.low, hr.least, hr.most⟩, e⟩

set_option maxRecDepth 100000 in
set_option maxHeartbeats 2000000 in
/-- tokens' closure. -/
theorem tokens1_in (n l Bb n₀ : Nat) (v : Value) (raw : List Int) (J : List Tk → World → Prop) (W : World) (hn₀ : n₀ ≤ W.heap.size)
    (hJ : AbidesIn W.heap.size (W.heap.size + 1) J)
    (hY : ∀ pre x W1, J pre W1 → pre.length < (toks nvOf (raw.map fixC)).length → W.heap.size + 1 ≤ W1.heap.size → YieldAt Fence.wide (n - 1) Tryd.prog l #[tkV x] W1 fun e W' => e = .returned (.bool true) ∧ J (pre ++ [x]) W' ∧ KeepsIn n₀ W.heap.size (W.heap.size + 1) W1 W')
    (hc : W.cell? ⟨Bb, 0, none⟩ = some v) (hI : IntsAt n₀ W v raw) (hlen : raw.length ≤ 1000000) (hT : RTabs n₀ W) (h0 : J [] W) :
    CallsIn Fence.wide n Tryd.prog 21 #[.func (.yield l) #[] #[], .pointer (some ⟨Bb, 0, none⟩)] W fun e W' => (∃ v, e = .returned v) ∧ ∃ ys, ys = toks nvOf (raw.map fixC) ∧ J ys W' := by
  obtain ⟨p, cap, rfl⟩ := hI.len
  have hp0 : Pair (W.alloc (.cells #[.slice p raw.length cap, .int .i64 0] 55)) W.heap.size 55 (.slice p raw.length cap) (.int .i64 ((0 : Nat) : Int)) := heap_alloc_new W _
  have g0 : W.grownBy (W.alloc (.cells #[.slice p raw.length cap, .int .i64 0] 55)) none := World.grownBy_alloc _ _ _
  have k0 : At n₀ (W.alloc (.cells #[.slice p raw.length cap, .int .i64 0] 55)) W.heap.size raw (raw.map fixC) := ⟨_, 0, ⟨hp0, hI.below (below_of_still g0 n₀ hn₀ (row := none) rfl), hn₀, Nat.zero_le _, hlen⟩, rfl⟩
  have hJ0 : J [] (W.alloc (.cells #[.slice p raw.length cap, .int .i64 0] 55)) := hJ.alloc _ h0
  have B0 : Below n₀ W (W.alloc (.cells #[.slice p raw.length cap, .int .i64 0] 55)) := below_of_still g0 n₀ hn₀ (row := none) rfl
  have h1 := passComments_any k0
  refine callsIn_of_wp Tryd.func21 rfl trivial ?_ rfl
  simp only [Tryd.ntmps21, List.size_toArray, List.length_cons, List.length_nil, Nat.reduceAdd, Nat.reduceSub, Array.replicate_succ, Array.replicate_zero, List.push_toArray, List.append_toArray, List.nil_append, List.cons_append]
  gi_wp2_with fail
  refine ⟨trivial, fun h => (by cases h), ?_⟩
  generalize W.alloc (.cells #[.slice p raw.length cap, .int .i64 0] 55) = w0 at *
  refine (callsIn_wide.2 h1).mono ?_
  clear h1
  rintro e w1 ⟨rfl, l1, k1, e1, hn1, hl1, g1⟩
  have own : ∀ r : Nat, some W.heap.size = some r → W.heap.size ≤ r ∧ r < W.heap.size + 1 := fun r e => by cases e; omega
  have hJ1 : J [] w1 := hJ _ w0 w1 _ hJ0 g1 own
  have hR0 := k0.lt
  have B1 : Below n₀ W w1 := B0.trans ((below_of_grown g1 (Nat.le_of_lt hR0)).mono hn₀)
  have e1' : toks nvOf (raw.map fixC) = [] ++ toks nvOf l1 := (e1 nvOf).symm
  clear k0 hJ0 B0 hp0 g0 g1 e1 hl1 hc hI h0
  gi_wp2
  gi_loopw [] (fun wr => ∃ (l' : List Int) (pre : List Tk), At n₀ wr W.heap.size raw l' ∧ Hid (toks nvOf (raw.map fixC) = pre ++ toks nvOf l') ∧ Hid (¬ (see l' 0 = 47 ∧ see l' 1 = 42)) ∧ J pre wr ∧ Below n₀ W wr) (fun wr => lenOf raw wr W.heap.size)
  case atStart => exact ⟨l1, [], k1, e1', hn1, hJ1, B1⟩
  case round =>
    clear k1 e1' hn1 hJ1 B1
    obtain ⟨l', pre, k', HE, HN, hJs, B'⟩ := hrel
    have hm := k'.lenOf
    have h1 := ahead_any 0 (by omega) k'
    cases l' with
    | nil =>
      rw [see_nil] at h1
      gi_wp2_with fail
      refine ⟨trivial, fun h => (by cases h), ?_⟩
      refine (callsIn_wide.2 h1).mono ?_
      rintro e w2 ⟨rfl, g2⟩
      have hJ2 : J pre w2 := hJ _ wr w2 none hJs g2 (fun _ e => by cases e)
      gi_wp2
      go_end0
      exact ⟨⟨_, rfl⟩, pre, by rw [show toks nvOf (raw.map fixC) = _ from HE, toks_nil, List.append_nil], hJ2⟩
    | cons c r =>
      rw [see_zero] at h1
      have hc0 : (c != -1) = true := by
        have := k'.mem (List.mem_cons_self ..)
        simp
        omega
      have hnc : ¬ (c = 47 ∧ see r 0 = 42) := by
        have := show ¬ _ from HN
        rwa [see_zero, see_succ] at this
      have hT' : RTabs n₀ wr := hT.below B'
      have hlen' : pre.length < (toks nvOf (raw.map fixC)).length := by
        obtain ⟨k, hk⟩ := step_some nvOf (l := c :: r) (show ¬ _ from HN)
        rw [show toks nvOf (raw.map fixC) = _ from HE, toks_cons, hk]
        simp
      gi_wp2_with fail
      refine ⟨trivial, fun h => (by cases h), ?_⟩
      refine (callsIn_wide.2 h1).mono ?_
      clear h1
      rintro e w2 ⟨rfl, g2⟩
      have hJ2 : J pre w2 := hJ _ wr w2 none hJs g2 (fun _ e => by cases e)
      have k2 := k'.kept g2
      have hR2 := k2.lt
      have hwr := k'.lt
      have B2 : Below n₀ W w2 := B'.trans (below_of_still g2 n₀ (by omega) (row := none) rfl)
      have h3 := token_any k2 hnc ((hT.below B2).mono hn₀)
      clear k' hJs B' g2 hT'
      gi_wp2_with fail
      refine ⟨trivial, fun h => (by cases h), ?_⟩
      refine (callsIn_wide.2 h3).mono ?_
      clear h3
      rintro e w3 ⟨k, l3, hk, rfl, k3, g3⟩
      have hJ3 : J pre w3 := hJ _ w2 w3 _ hJ2 g3 own
      have hR3 := k3.lt
      have B3 : Below n₀ W w3 := B2.trans ((below_of_grown g3 (Nat.le_of_lt hR2)).mono hn₀)
      clear hJ2 B2 k2 g3
      obtain ⟨fn, tmps, assign, body, hy, hR⟩ := hY pre k w3 hJ3 hlen' (by omega)
      generalize hkv : tkV k = kv at *
      gi_wp2_with fail
      refine ⟨fun h => (by cases h), hR.mono ?_⟩
      rintro e w4 ⟨rfl, hJ4, hk4⟩
      have k4 := k3.keeps hk4
      have hR4 := k4.lt
      have B4 : Below n₀ W w4 := B3.trans hk4.below
      have h5 := passComments_any k4
      gi_wp2_with fail
      refine ⟨trivial, fun h => (by cases h), ?_⟩
      refine (callsIn_wide.2 h5).mono ?_
      clear h5
      rintro e w5 ⟨rfl, l5, k5, e5, hn5, hl5, g5⟩
      have hJ5 : J (pre ++ [k]) w5 := hJ _ w4 w5 _ hJ4 g5 own
      have B5 : Below n₀ W w5 := B4.trans ((below_of_grown g5 (Nat.le_of_lt hR4)).mono hn₀)
      have hm5 := k5.lenOf
      have hsl := step_len nvOf c r
      rw [hk] at hsl
      have HE5 : Hid (toks nvOf (raw.map fixC) = (pre ++ [k]) ++ toks nvOf l5) := by
        show _ = _
        rw [show toks nvOf (raw.map fixC) = _ from HE, toks_cons, hk, e5]
        simp
      clear hk e5
      gi_wp2
      go_roundw
      case rel => exact ⟨l5, pre ++ [k], k5, HE5, hn5, hJ5, B5⟩
      case measure => rw [hm, hm5]; simp only [List.length_cons]; omega

/-- tok.tokens: the slice is boxed; the closure captures the box. -/
theorem tokens_in (n : Nat) (v : Value) (w : World) (hv : v.oneCell' = true) :
    CallsIn Fence.wide n Tryd.prog 13 #[v] w fun e w' => e = .returned (.func (.func 21) #[] #[.pointer (some ⟨w.heap.size, 0, none⟩)]) ∧ w' = w.alloc (.cells #[v] 31) := by
  refine callsIn_of_wp Tryd.func13 rfl trivial ?_ rfl
  simp only [Tryd.ntmps13, List.size_toArray, List.length_cons, List.length_nil, Nat.reduceAdd, Nat.reduceSub, Array.replicate_succ, Array.replicate_zero, List.push_toArray, List.append_toArray, List.nil_append, List.cons_append]
  gi_wp2
  go_ret
  exact ⟨rfl, rfl⟩

/-- WHAT tok.tokens HANDS BACK, as an iterator. -/
theorem tokens_seq (n Bb n₀ : Nat) (v : Value) (raw : List Int) (w : World) (hBb : Bb < w.heap.size) (hn₀ : n₀ ≤ w.heap.size)
    (hc : w.cell? ⟨Bb, 0, none⟩ = some v) (hI : IntsAt n₀ w v raw) (hlen : raw.length ≤ 1000000) (hT : RTabs n₀ w) :
    SeqX Fence.wide n Tryd.prog 21 #[.pointer (some ⟨Bb, 0, none⟩)] (fun x : Tk => #[tkV x]) n₀ (fun ys => ys = toks nvOf (raw.map fixC)) (toks nvOf (raw.map fixC)).length 1 w := fun l J W hW hJ hY h0 =>
  tokens1_in n l Bb n₀ v raw J W (Nat.le_trans hn₀ hW.size) hJ (fun pre x W1 h1 h2 h3 => hY pre x W1 h1 h2 h3)
    ((hW.cell (p := ⟨Bb, 0, none⟩) hBb).trans hc) (hI.below (hW.mono hn₀)) hlen (hT.below (hW.mono hn₀)) h0

end Go.Proofs.YtlgfmncflnipgaaDoor
