/- package tok's reader: numbers. -/
import Derived.Test.YtlgfmncflnipgaaDoorTkStr
import Derived.Test.YtlgfmncflnipgaaDoorNmOf
namespace Go.Proofs.YtlgfmncflnipgaaDoor
open Go Go.RowKit Go.Shelf

/-- The number of a number's text. -/
def nvOf (t : List Int) : Int := Nm.numN (encs t)

theorem numText_eq (l : List Int) : l = (numText l).1 ++ (numText l).2.1 := by
  have hu : l = sgn l ++ unsign l := by
    unfold sgn unsign
    cases l with
    | nil => rfl
    | cons c r =>
      rw [see_zero]
      split <;> rfl
  have hd := List.takeWhile_append_dropWhile (p := isDigit) (l := unsign l)
  unfold numText
  simp only
  split
  · rename_i hp
    have hne := pointed_ne hp
    have h46 : (unsign l).dropWhile isDigit = 46 :: ((unsign l).dropWhile isDigit).tail := by
      unfold pointed at hp
      cases e : (unsign l).dropWhile isDigit with
      | nil => exact absurd e hne
      | cons c r =>
        rw [e, see_zero] at hp
        have : c = 46 := by
          have := (Bool.and_eq_true _ _ ▸ hp).1
          simpa using this
        rw [this]
        rfl
    have hd2 := List.takeWhile_append_dropWhile (p := isDigit) (l := ((unsign l).dropWhile isDigit).tail)
    show l = sgn l ++ (unsign l).takeWhile isDigit ++ 46 :: ((unsign l).dropWhile isDigit).tail.takeWhile isDigit ++ ((unsign l).dropWhile isDigit).tail.dropWhile isDigit
    rw [List.append_assoc, List.cons_append, hd2, ← h46, List.append_assoc, hd]
    exact hu
  · show l = sgn l ++ (unsign l).takeWhile isDigit ++ (unsign l).dropWhile isDigit
    rw [List.append_assoc, hd]
    exact hu

/-- Part of a slice of integers. -/
theorem IntsAt.part {n₀ : Nat} {W : World} {p : Option Addr} {cap : Nat} {raw : List Int} (h : IntsAt n₀ W (.slice p raw.length cap) raw) {a b : Nat} (hab : a < b) (hb : b ≤ raw.length) :
    ∃ bk off, p = some ⟨bk, off, none⟩ ∧ raw.length ≤ cap ∧ cap ≤ maxLen ∧ IntsAt n₀ W (.slice (some ⟨bk, off + a, none⟩) (b - a) (cap - a)) ((raw.drop a).take (b - a)) := by
  rcases h with ⟨rfl, _⟩ | ⟨bk, off, c, e, h1, h2, h3, h4⟩
  · simp at hb; omega
  · cases e
    refine ⟨bk, off, rfl, h1, h2, .inr ⟨bk, off + a, cap - a, ?_, ?_, by omega, h3, fun j u hj => ?_⟩⟩
    · congr 1
      rw [List.length_take, List.length_drop]
      omega
    · rw [List.length_take, List.length_drop]
      omega
    · rw [List.getElem?_take] at hj
      split at hj
      · rw [List.getElem?_drop] at hj
        rw [Nat.add_assoc]
        exact h4 _ u hj
      · cases hj

theorem numText_lt {l : List Int} (hb : begNum l = true) : (numText l).2.1.length < l.length := by
  cases l with
  | nil => exact absurd hb (by decide)
  | cons c r =>
    have := numText_len hb
    rw [List.length_cons]
    omega
/-- What was read between two places. -/
theorem part_of {raw l l5 t : List Int} {a0 a1 : Nat} (e0 : l = (raw.map fixC).drop a0) (e1 : l5 = (raw.map fixC).drop a1) (E : l = t ++ l5) (h0 : a0 ≤ raw.length) (h1 : a1 ≤ raw.length) (hlt : l5.length < l.length) :
    a0 < a1 ∧ ((raw.drop a0).take (a1 - a0)).map fixC = t := by
  have n0 := congrArg List.length e0
  have n1 := congrArg List.length e1
  have nE := congrArg List.length E
  rw [List.length_drop, List.length_map] at n0 n1
  rw [List.length_append] at nE
  refine ⟨by omega, ?_⟩
  rw [List.map_take, List.map_drop, ← e0, E, show a1 - a0 = t.length by omega]
  simp

set_option maxRecDepth 100000 in
set_option maxHeartbeats 4000000 in
theorem amount_any {w : World} {n₀ R : Nat} {raw l : List Int} (h : At n₀ w R raw l) (hb : begNum l = true) (hT : Nm.Tabs R w) :
    Calls Tryd.prog 59 #[.pointer (some ⟨R, 0, none⟩)] w fun e w' => e = .returned (.tuple #[.int .i64 (nvOf (numText l).1), .bool (numText l).2.2]) ∧ At n₀ w' R raw (numText l).2.1 ∧ w.grownBy w' (some R) := by
  have hR := h.lt
  have hlen := h.len
  have hp := h
  obtain ⟨v0, a0, hr0, e0⟩ := h
  have c1 := hr0.pair.c1
  have h1 := ahead_any 0 (by omega) hp
  have hs := isSign_any (see l 0)
  have hu : Hid (unsign l = if (see l 0 == 43 || see l 0 == 45) = true then l.tail else l) := rfl
  have hne : (see l 0 == 43 || see l 0 == 45) = true → l ≠ [] := fun e e2 => by rw [e2] at e; exact absurd e (by decide)
  have E := numText_eq l
  have HN : Hid (numText l = if pointed ((unsign l).dropWhile isDigit) = true then (sgn l ++ (unsign l).takeWhile isDigit ++ 46 :: ((unsign l).dropWhile isDigit).tail.takeWhile isDigit, ((unsign l).dropWhile isDigit).tail.dropWhile isDigit, false) else (sgn l ++ (unsign l).takeWhile isDigit, (unsign l).dropWhile isDigit, true)) := rfl
  generalize (see l 0 == 43 || see l 0 == 45) = s at *
  generalize see l 0 = c at *
  go_enter Tryd.func59, Tryd.ntmps59
  go_wp2_with fail
  refine h1.mono ?_
  clear h1
  rintro e w1 ⟨rfl, g1⟩
  go_wp2_with fail
  refine (hs _).mono ?_
  clear hs
  rintro e w' ⟨rfl, rfl⟩
  have k1 := hp.kept g1
  go_upto_if 11 with fail
  go_cut [] (fun wx => At n₀ wx R raw (unsign l) ∧ w.grownBy wx (some R))
  case first =>
    cases s with
    | true =>
      have hu' : Hid (unsign l = l.tail) := hu
      clear hu
      obtain ⟨a, d1, f1, ha, _, ⟨k2, _⟩, _⟩ := k1.open' (hne rfl)
      go_wp2
      go_meet
      rw [show unsign l = _ from hu']
      exact ⟨k2, (grown_but g1 _).trans (grown_set1 _ _ _)⟩
    | false =>
      have hu' : Hid (unsign l = l) := hu
      clear hu
      go_wp2
      go_meet
      rw [show unsign l = _ from hu']
      exact ⟨k1, grown_but g1 _⟩
  case rest =>
    obtain ⟨k2, g2⟩ := hcut
    clear g1 k1 hp
    generalize unsign l = l2 at *
    have h2 := passDigits_any k2
    go_wp2_with fail
    refine h2.mono ?_
    clear h2 k2
    rintro e w3 ⟨rfl, k3, g3⟩
    have g13 := g2.trans g3
    have h3 : Calls Tryd.prog 58 #[.pointer (some ⟨R, 0, none⟩), .int .i64 0] w3 fun e w' => e = .returned (.bool (pointed (l2.dropWhile isDigit))) ∧ w3.grownBy w' none := fractionBegins_any 0 (by omega) k3
    generalize l2.dropWhile isDigit = l3 at *
    go_wp2_with fail
    refine h3.mono ?_
    clear h3
    rintro e w4 ⟨rfl, g4⟩
    have k4 := k3.kept g4
    have g14 := g13.trans (grown_but g4 _)
    clear k3 g13 g4 g3
    clear hu
    go_upto_if 25 with fail
    go_cut [3] (fun s3 wx => s3 = .bool (!pointed l3) ∧ At n₀ wx R raw (if pointed l3 then l3.tail.dropWhile isDigit else l3) ∧ w.grownBy wx (some R))
    case first =>
      cases hp3 : pointed l3 with
      | true =>
        obtain ⟨a, d1, f1, ha, _, ⟨k5, _⟩, _⟩ := k4.open' (pointed_ne hp3)
        have g15 := g14.trans (grown_set1 w4 R (.int .i64 ((a : Int) + 1)))
        have h5 := passDigits_any k5
        go_wp2_with fail
        refine h5.mono ?_
        rintro e w6 ⟨rfl, k6, g6⟩
        go_wp2
        go_meet
        exact ⟨by rw [hp3]; rfl, by rw [hp3]; exact k6, g15.trans g6⟩
      | false =>
        go_wp2
        go_meet
        exact ⟨by rw [hp3], by rw [hp3]; exact k4, g14⟩
    case rest =>
      obtain ⟨rfl, k5, g5⟩ := hcut
      clear k4 g14
      have hN1 : (if pointed l3 then l3.tail.dropWhile isDigit else l3) = (numText l).2.1 := by
        rw [show numText l = _ from HN]
        split <;> rfl
      have hN2 : (!pointed l3) = (numText l).2.2 := by
        rw [show numText l = _ from HN]
        cases pointed l3 <;> rfl
      rw [hN1] at k5
      rw [hN2]
      clear hN1 hN2 HN hne
      have hlt := numText_lt hb
      have k5' := k5
      obtain ⟨v1, a1, hr1, e1⟩ := k5
      obtain ⟨p1, cap1, rfl⟩ := hr1.ints.len
      have d0 := hr1.pair.c0
      have d1 := hr1.pair.c1
      have H3 : Hid (numText l = ((numText l).1, (numText l).2.1, (numText l).2.2)) := rfl
      generalize (numText l).2.2 = wh at *
      generalize (numText l).2.1 = l5 at *
      generalize (numText l).1 = t at *
      obtain ⟨ha, hpt⟩ := part_of (raw := raw) e0 e1 E hr0.least hr1.least hlt
      obtain ⟨bk, off, rfl, hc1, hc2, hI⟩ := hr1.ints.part ha hr1.least
      have hb1 := hr1.least
      unfold maxLen at hc2
      have hRw : R ≤ wc.heap.size := Nat.le_of_lt hr1.pair.lt
      have h6 := encoded_any _ _ wc.drew (hI.mono (Nat.le_trans hr1.low hRw)) (by rw [List.length_take, List.length_drop]; omega)
      rw [show txtOf ((raw.drop a0).take (a1 - a0)) = txtOf t by unfold txtOf; rw [← encs_fix ((raw.drop a0).take (a1 - a0)), hpt]] at h6
      have hTc : Nm.Tabs wc.heap.size wc := (hT.below (below_of_grown g5 (Nat.le_of_lt hR))).mono hRw
      have htl : t.length ≤ 1000000 := by
        have := congrArg List.length E
        rw [List.length_append] at this
        omega
      have htx : (txtOf t).size ≤ 4000000 := by
        have := encs_len t
        show (encs t).toArray.size ≤ _
        rw [List.size_toArray]
        omega
      have h7 := fun w7 (b7 : Below wc.drew.heap.size wc.drew w7) => Nm.of_any (txtOf t) w7 htx ((hTc.below (w' := w7) ⟨b7.os, b7.tape, b7.output, b7.size, b7.block⟩).mono b7.size)
      have ed : (txtOf t).data.toList = encs t := rfl
      rw [ed] at h7
      have en : Nm.numN (encs t) = nvOf t := rfl
      rw [en] at h7
      clear ed en htx htl hTc hRw hpt hI e0 e1 E hlt hr0 hT hb hlen
      generalize hNt : nvOf t = N at *
      have HNt : Hid (nvOf t = N) := hNt
      clear hNt
      generalize Nm.numOk (encs t) = ok at *
      generalize txtOf t = tx at *
      go_upto_region 9 with fail
      go_cut [2] (fun s2 wx => s2 = .int .i64 N ∧ Below wc.heap.size wc wx)
      case first =>
        clear k5' g5 hr1 c1
        go_region_with (first
          | (go_at_call 19; refine h6.mono ?_; rintro e w7 ⟨rfl, b7⟩)
          | (go_at_call 68; refine (h7 _ b7).mono ?_; rintro e w8 ⟨rfl, b8⟩))
        all_goals have b9 := b7.trans (b8.mono b7.size)
        all_goals clear h6 h7 b7 b8 d0 d1
        all_goals simp only [List.getElem_toArray, List.getElem_cons_succ, List.getElem_cons_zero, Act.put, List.setIfInBounds_toArray, List.set_cons_succ, List.set_cons_zero]
        all_goals (go_wp2_with fail; go_meet; exact ⟨rfl, b9.os, b9.tape, b9.output, b9.size, b9.block⟩)
      case rest =>
        obtain ⟨rfl, b9⟩ := hcut
        go_wp2
        go_ret2
        rw [show numText l = _ from H3, show nvOf t = N from HNt]
        have g9 := grown_of_below b9 none
        exact ⟨rfl, k5'.kept g9, g5.trans (grown_but g9 _)⟩

end Go.Proofs.YtlgfmncflnipgaaDoor
