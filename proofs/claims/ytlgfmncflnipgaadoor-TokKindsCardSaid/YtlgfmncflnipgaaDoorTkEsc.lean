/- package tok's reader: line ends in strings, escapes, comments. -/
import Derived.Test.YtlgfmncflnipgaaDoorTkGo
import Derived.Handy
namespace Go.Proofs.YtlgfmncflnipgaaDoor
open Go Go.RowKit

set_option maxHeartbeats 1000000 in
theorem passLineEnd_any {w : World} {n₀ R : Nat} {raw r : List Int} {c : Int} (h : At n₀ w R raw (c :: r)) :
    Calls Tryd.prog 53 #[.pointer (some ⟨R, 0, none⟩)] w fun e w' => e = .returned (.tuple #[]) ∧ At n₀ w' R raw (if see r 0 = 10 then r.tail else r) ∧ w.grownBy w' (some R) := by
  obtain ⟨a, c1, f1, ha, _, ⟨k1, _⟩, _⟩ := h.open' (by simp)
  have g1 := grown_set1 w R (.int .i64 ((a : Int) + 1))
  replace k1 : At n₀ _ R raw r := k1
  clear h
  go_enter Tryd.func53, Tryd.ntmps53
  go_wp2_with fail
  have h1 := ahead_any 0 (by omega) k1
  generalize w.setCell ⟨R, 1, none⟩ (.int .i64 ((a : Int) + 1)) = w1 at *
  clear c1 f1
  refine h1.mono ?_
  rintro e w2 ⟨rfl, g2⟩
  have k2 := k1.kept g2
  by_cases hd : see r 0 = 10
  · rw [hd]
    have hne : r ≠ [] := fun e => by rw [e] at hd; revert hd; decide
    clear h1
    obtain ⟨b, c2, f2, hb, _, ⟨k3, _⟩, _⟩ := k2.open' hne
    go_wp2
    go_returns
    exact ⟨rfl, k3, (g1.trans (grown_but g2 _)).trans (grown_set1 _ _ _)⟩
  · have hd' : (see r 0 == 10) = false := by simpa using hd
    clear h1
    go_wp2
    go_returns
    exact ⟨rfl, k2, g1.trans (grown_but g2 _)⟩

theorem hexRun_stop (k : Nat) (v : Int) {l : List Int} (h : isHex (see l 0) = false) : hexRun k v l = (v, l) := by
  have h' : ¬ 0 ≤ hexv (see l 0) := fun e => by rw [isHex_iff.2 e] at h; cases h
  cases k with
  | zero => rfl
  | succ k =>
    cases l with
    | nil => rfl
    | cons c r =>
      rw [see_zero] at h'
      rw [hexRun, if_neg h']
theorem hexRun_go (k : Nat) (v : Int) {l : List Int} (h : isHex (see l 0) = true) : hexRun (k + 1) v l = hexRun k (v * 16 + hexv (see l 0)) l.tail := by
  cases l with
  | nil => exact absurd h (by decide)
  | cons c r =>
    rw [see_zero] at h ⊢
    rw [hexRun, if_pos (isHex_iff.1 h)]
    rfl
theorem hexv_le (c : Int) : hexv c ≤ 15 := by
  unfold hexv
  repeat' split
  all_goals omega

set_option maxHeartbeats 2000000 in
theorem hexNumber_any {w : World} {n₀ R : Nat} {raw l : List Int} (h : At n₀ w R raw l) :
    Calls Tryd.prog 66 #[.pointer (some ⟨R, 0, none⟩)] w fun e w' => e = .returned (.int .i64 (hexRun 6 0 l).1) ∧ At n₀ w' R raw (hexRun 6 0 l).2 ∧ w.grownBy w' (some R) ∧ 0 ≤ (hexRun 6 0 l).1 ∧ (hexRun 6 0 l).1 ≤ 16777215 := by
  go_enter Tryd.func66, Tryd.ntmps66
  go_wp2
  go_loopw [3, 6] (fun n i wr => ∃ (k v : Nat) (l' : List Int), n = .int .i64 v ∧ i = .int .i64 k ∧ k ≤ 6 ∧ v < 16 ^ k ∧ At n₀ wr R raw l' ∧ hexRun (6 - k) v l' = hexRun 6 0 l ∧ w.grownBy wr (some R)) (fun _ i _ => 6 - (intOf i).toNat)
  case atStart => exact ⟨0, 0, l, rfl, rfl, by omega, by decide, h, rfl, World.grownBy.refl _ _⟩
  case round =>
    obtain ⟨k, v, l', rfl, rfl, hk, hv, h', e', g'⟩ := hrel
    have hv6 : v < 16777216 := Nat.lt_of_lt_of_le hv (Nat.pow_le_pow_right (by decide) hk)
    by_cases hlt : k < 6
    · have hki : (k : Int) < 6 := by omega
      have h1 := ahead_any 0 (by omega) h'
      have h2 := hexDigit_any (see l' 0)
      cases hx : isHex (see l' 0) with
      | false =>
        rw [hexRun_stop _ _ hx] at e'
        rw [hx] at h2
        generalize see l' 0 = c at *
        clear hx
        go_wp2_with fail
        refine h1.mono ?_
        rintro e w1 ⟨rfl, g1⟩
        go_wp2_with fail
        refine (h2 _).mono ?_
        rintro e w' ⟨rfl, rfl⟩
        go_wp2
        go_ret
        rw [← e']
        exact ⟨rfl, h'.kept g1, g'.trans (grown_but g1 _), by simp only; omega, by simp only; omega⟩
      | true =>
        have hne : l' ≠ [] := fun e => by rw [e] at hx; exact absurd hx (by decide)
        have e6 : 6 - k = (6 - (k + 1)) + 1 := by omega
        rw [e6, hexRun_go _ _ hx] at e'
        have h0 := isHex_iff.1 hx
        have h15 := hexv_le (see l' 0)
        have hor : hexOr (see l' 0) = hexv (see l' 0) := by unfold hexOr; rw [if_pos h0]
        rw [hx, hor] at h2
        obtain ⟨d, hd⟩ := Int.eq_ofNat_of_zero_le h0
        rw [hd] at h2 e' h15
        clear hor h0 hd e6 hx
        generalize see l' 0 = c at *
        have hpow : 16 ^ (k + 1) = 16 ^ k * 16 := Nat.pow_succ ..
        have ev : (v : Int) * 16 + (d : Int) = ((16 * v + d : Nat) : Int) := by omega
        rw [ev] at e'
        clear ev
        go_wp2_with fail
        refine h1.mono ?_
        rintro e w1 ⟨rfl, g1⟩
        obtain ⟨a, c1, f1, ha, _, ⟨k1, _⟩, _⟩ := (h'.kept g1).open' hne
        clear h1
        go_wp2_with fail
        refine (h2 _).mono ?_
        rintro e w' ⟨rfl, rfl⟩
        go_wp2
        refine ⟨⟨k + 1, 16 * v + d, _, by go_num, by go_num, by omega, by omega, k1, e', (g'.trans (grown_but g1 _)).trans (grown_set1 _ _ _)⟩, by simp [intOf]; omega⟩
    · have hki : ¬ (k : Int) < 6 := by omega
      obtain rfl : k = 6 := by omega
      have e'' : ((v : Int), l') = hexRun 6 0 l := e'
      go_wp2
      go_ret
      rw [← e'']
      exact ⟨rfl, h', g', by simp only; omega, by simp only; omega⟩

theorem hexPoint_eq {n : Int} (h0 : 0 ≤ n) : hexPoint n = if n = 0 then 65533 else fixC n := by
  unfold hexPoint
  by_cases hz : n = 0
  · rw [if_pos (.inl hz), if_pos hz]
  · rw [if_neg hz]
    by_cases hr : 1114111 < n ∨ (55296 ≤ n ∧ n ≤ 57343)
    · rw [if_pos (by omega), fixC_no (rightB_false (by omega))]
    · rw [if_neg (by omega), fixC_yes (rightB_true (by omega))]

set_option maxHeartbeats 2000000 in
theorem escape_any {w : World} {n₀ R : Nat} {raw r : List Int} {c : Int} (h : At n₀ w R raw (c :: r)) (hr : r ≠ []) :
    Calls Tryd.prog 52 #[.pointer (some ⟨R, 0, none⟩)] w fun e w' => e = .returned (.int .i64 (escd (c :: r)).1) ∧ At n₀ w' R raw (escd (c :: r)).2 ∧ w.grownBy w' (some R) := by
  obtain ⟨a, c1, f1, ha, _, ⟨k1, _⟩, _⟩ := h.open' (by simp)
  have g1 := grown_set1 w R (.int .i64 ((a : Int) + 1))
  replace k1 : At n₀ _ R raw r := k1
  clear h
  have e1 : see (c :: r) 1 = see r 0 := see_succ _ _ _
  have et : (c :: r).tail = r := rfl
  go_enter Tryd.func52, Tryd.ntmps52
  go_wp2_with fail
  have h1 := ahead_any 0 (by omega) k1
  have h2 := hexDigit_any (see r 0)
  generalize w.setCell ⟨R, 1, none⟩ (.int .i64 ((a : Int) + 1)) = w1 at *
  clear c1 f1
  refine h1.mono ?_
  clear h1
  rintro e w2 ⟨rfl, g2⟩
  have k2 := k1.kept g2
  have g12 := g1.trans (grown_but g2 _)
  clear k1 g1 g2
  cases hx : isHex (see r 0) with
  | false =>
    have hn : hexv (see r 0) < 0 := by
      have : ¬ 0 ≤ hexv (see r 0) := fun e => by rw [isHex_iff.2 e] at hx; cases hx
      omega
    have ee : Hid (escd (c :: r) = (see r 0, (c :: r).drop 2)) := by show _ = _; unfold escd; rw [e1, if_pos hn]
    rw [hx] at h2
    obtain ⟨d, r', rfl⟩ := List.exists_cons_of_ne_nil hr
    have h3 := take_any k2
    rw [see_zero] at h2
    clear e1 et hn hx
    rw [see_zero]
    go_wp2_with fail
    refine (h2 _).mono ?_
    rintro e w' ⟨rfl, rfl⟩
    go_wp2_with fail
    refine h3.mono ?_
    rintro e w3 ⟨rfl, k3, g3⟩
    go_wp2
    go_ret
    rw [show escd (c :: d :: r') = _ from ee]
    exact ⟨rfl, k3, g12.trans g3⟩
  | true =>
    have hn : ¬ hexv (see r 0) < 0 := by have := isHex_iff.1 hx; omega
    have ee : Hid (escd (c :: r) = (hexPoint (hexRun 6 0 r).1, if isWhite (see (hexRun 6 0 r).2 0) then (hexRun 6 0 r).2.tail else (hexRun 6 0 r).2)) := by show _ = _; unfold escd; rw [e1, if_neg hn, et]
    rw [hx] at h2
    have h3 := hexNumber_any k2
    generalize (hexRun 6 0 r).1 = v at *
    generalize (hexRun 6 0 r).2 = l' at *
    generalize hexOr (see r 0) = o at *
    clear e1 et hn hx
    generalize see r 0 = d at *
    go_wp2_with fail
    refine (h2 _).mono ?_
    rintro e w' ⟨rfl, rfl⟩
    go_wp2_with fail
    refine h3.mono ?_
    clear h3
    rintro e w3 ⟨rfl, k3, g3, hv0, hv1⟩
    have h4 := ahead_any 0 (by omega) k3
    have h5 := isWhite_any (see l' 0)
    have h6 := settled_any v
    go_wp2_with fail
    refine h4.mono ?_
    clear h4
    rintro e w4 ⟨rfl, g4⟩
    have k4 := k3.kept g4
    have g14 := (g12.trans g3).trans (grown_but g4 _)
    cases hw : isWhite (see l' 0) with
    | false =>
      have ef : Hid (escd (c :: r) = (hexPoint v, l')) := by show _ = _; rw [show escd (c :: r) = _ from ee, hw]; rfl
      rw [hw] at h5
      clear ee hw
      generalize see l' 0 = x at *
      by_cases hz : v = 0
      · have HQ : Hid (hexPoint v = 65533) := by show _ = _; rw [hexPoint_eq hv0, if_pos hz]
        subst hz
        go_wp2_with fail
        refine (h5 _).mono ?_
        rintro e w' ⟨rfl, rfl⟩
        go_wp2
        go_ret
        rw [show escd (c :: r) = _ from ef, show hexPoint _ = _ from HQ]
        exact ⟨rfl, k4, g14⟩
      · have HQ : Hid (hexPoint v = fixC v) := by show _ = _; rw [hexPoint_eq hv0, if_neg hz]
        have hz' : (v == 0) = false := by simpa using hz
        go_wp2_with fail
        refine (h5 _).mono ?_
        rintro e w' ⟨rfl, rfl⟩
        go_wp2_with fail
        refine (h6 _).mono ?_
        rintro e w' ⟨rfl, rfl⟩
        go_wp2
        go_ret
        rw [show escd (c :: r) = _ from ef, show hexPoint _ = _ from HQ]
        exact ⟨rfl, k4, g14⟩
    | true =>
      have hne : l' ≠ [] := fun e => by rw [e] at hw; exact absurd hw (by decide)
      have ef : Hid (escd (c :: r) = (hexPoint v, l'.tail)) := by show _ = _; rw [show escd (c :: r) = _ from ee, hw]; rfl
      rw [hw] at h5
      clear ee hw
      generalize see l' 0 = x at *
      obtain ⟨b, c2, f2, hb, _, ⟨k5, _⟩, _⟩ := k4.open' hne
      by_cases hz : v = 0
      · have HQ : Hid (hexPoint v = 65533) := by show _ = _; rw [hexPoint_eq hv0, if_pos hz]
        subst hz
        go_wp2_with fail
        refine (h5 _).mono ?_
        rintro e w' ⟨rfl, rfl⟩
        go_wp2
        go_ret
        rw [show escd (c :: r) = _ from ef, show hexPoint _ = _ from HQ]
        exact ⟨rfl, k5, g14.trans (grown_set1 _ _ _)⟩
      · have HQ : Hid (hexPoint v = fixC v) := by show _ = _; rw [hexPoint_eq hv0, if_neg hz]
        have hz' : (v == 0) = false := by simpa using hz
        go_wp2_with fail
        refine (h5 _).mono ?_
        rintro e w' ⟨rfl, rfl⟩
        go_wp2_with fail
        refine (h6 _).mono ?_
        rintro e w' ⟨rfl, rfl⟩
        go_wp2
        go_ret
        rw [show escd (c :: r) = _ from ef, show hexPoint _ = _ from HQ]
        exact ⟨rfl, k5, g14.trans (grown_set1 _ _ _)⟩

set_option maxHeartbeats 2000000 in
theorem passComment_any {w : World} {n₀ R : Nat} {raw l : List Int} (h : At n₀ w R raw l) :
    Calls Tryd.prog 33 #[.pointer (some ⟨R, 0, none⟩)] w fun e w' => e = .returned (.tuple #[]) ∧ At n₀ w' R raw (skipC l) ∧ w.grownBy w' (some R) := by
  go_enter Tryd.func33, Tryd.ntmps33
  go_wp2
  go_loopw [] (fun wr => ∃ l', At n₀ wr R raw l' ∧ skipC l' = skipC l ∧ w.grownBy wr (some R)) (fun wr => 1000002 - placeOf wr R)
  case atStart => exact ⟨l, h, rfl, World.grownBy.refl _ _⟩
  case round =>
    obtain ⟨l', h', e', g'⟩ := hrel
    have h1 := ahead_any 0 (by omega) h'
    have h2 := fun w1 (g : wr.grownBy w1 none) => ahead_any 0 (by omega) (h'.kept g)
    have h3 := fun w1 (g : wr.grownBy w1 none) => ahead_any 1 (by omega) (h'.kept g)
    cases l' with
    | nil =>
      rw [see_nil] at h1
      go_wp2_with fail
      refine h1.mono ?_
      rintro e w1 ⟨rfl, g1⟩
      go_wp2
      go_returns
      rw [← e']
      exact ⟨rfl, h'.kept g1, g'.trans (grown_but g1 _)⟩
    | cons c r =>
      rw [see_zero] at h1
      simp only [see_zero] at h2
      simp only [see_succ] at h3
      have hc : (c == -1) = false := by
        rcases h'.see_ge 0 with e | e
        · obtain ⟨v, a, hr, ee⟩ := h'
          rw [see_zero] at e
          have : c ∈ raw.map fixC := List.mem_of_mem_drop (ee ▸ List.mem_cons_self ..)
          obtain ⟨x, _, rfl⟩ := List.mem_map.1 this
          have := (fixC_right x).1
          omega
        · rw [see_zero] at e
          simp
          omega
      have hsk : skipC (c :: r) = if c = 42 ∧ see r 0 = 47 then r.tail else skipC r := rfl
      have hrne : see r 0 = 47 → r ≠ [] := fun e e2 => by rw [e2] at e; revert e; decide
      generalize see r 0 = d at *
      by_cases hcd : c = 42 ∧ d = 47
      · obtain ⟨rfl, rfl⟩ := hcd
        replace hrne : r ≠ [] := hrne rfl
        rw [if_pos ⟨rfl, rfl⟩] at hsk
        rw [hsk] at e'
        clear hsk
        go_wp2_with fail
        refine h1.mono ?_
        rintro e w1 ⟨rfl, g1⟩
        go_wp2_with fail
        refine (h2 _ g1).mono ?_
        rintro e w2 ⟨rfl, g2⟩
        have g12 := g1.trans g2
        go_wp2_with fail
        refine (h3 _ g12).mono ?_
        rintro e w3 ⟨rfl, g3⟩
        have g13 := g12.trans g3
        obtain ⟨a, c1, f1, ha, _, _, k1⟩ := (h'.kept g13).open' (by simp)
        replace k1 := k1 hrne
        go_wp2
        go_returns
        rw [← e']
        exact ⟨rfl, k1, (g'.trans (grown_but g13 _)).trans (grown_set1 _ _ _)⟩
      · rw [if_neg hcd] at hsk
        rw [hsk] at e'
        clear hsk
        by_cases hc42 : c = 42
        · subst hc42
          have hd : (d == 47) = false := by simp; omega
          clear hcd hc
          go_wp2_with fail
          refine h1.mono ?_
          rintro e w1 ⟨rfl, g1⟩
          go_wp2_with fail
          refine (h2 _ g1).mono ?_
          rintro e w2 ⟨rfl, g2⟩
          have g12 := g1.trans g2
          go_wp2_with fail
          refine (h3 _ g12).mono ?_
          rintro e w3 ⟨rfl, g3⟩
          have g13 := g12.trans g3
          obtain ⟨a, c1, f1, ha, hp, ⟨k1, k2⟩, _⟩ := (h'.kept g13).open' (by simp)
          have hp' : placeOf wr R = a := placeOf_kept h' g13 hp
          go_wp2
          exact ⟨⟨_, k1, e', (g'.trans (grown_but g13 _)).trans (grown_set1 _ _ _)⟩, by rw [k2, hp']; omega⟩
        · have hc42' : (c == 42) = false := by simpa using hc42
          clear hcd
          go_wp2_with fail
          refine h1.mono ?_
          rintro e w1 ⟨rfl, g1⟩
          go_wp2_with fail
          refine (h2 _ g1).mono ?_
          rintro e w2 ⟨rfl, g2⟩
          have g12 := g1.trans g2
          obtain ⟨a, c1, f1, ha, hp, ⟨k1, k2⟩, _⟩ := (h'.kept g12).open' (by simp)
          have hp' : placeOf wr R = a := placeOf_kept h' g12 hp
          go_wp2
          exact ⟨⟨_, k1, e', (g'.trans (grown_but g12 _)).trans (grown_set1 _ _ _)⟩, by rw [k2, hp']; omega⟩

/-- How much is left, out of the world: for measures. -/
def lenOf (raw : List Int) (W : World) (R : Nat) : Nat := raw.length - placeOf W R
theorem At.lenOf {W : World} {n₀ R : Nat} {raw l : List Int} (h : At n₀ W R raw l) : lenOf raw W R = l.length := by
  obtain ⟨v, a, hr, rfl⟩ := h
  unfold Go.Proofs.YtlgfmncflnipgaaDoor.lenOf
  rw [hr.placeOf, List.length_drop, List.length_map]

set_option maxHeartbeats 2000000 in
theorem passComments_any {w : World} {n₀ R : Nat} {raw l : List Int} (h : At n₀ w R raw l) :
    Calls Tryd.prog 22 #[.pointer (some ⟨R, 0, none⟩)] w fun e w' => e = .returned (.tuple #[]) ∧ ∃ l', At n₀ w' R raw l' ∧ (∀ nv, toks nv l' = toks nv l) ∧ ¬ (see l' 0 = 47 ∧ see l' 1 = 42) ∧ l'.length ≤ l.length ∧ w.grownBy w' (some R) := by
  go_enter Tryd.func22, Tryd.ntmps22
  go_wp2
  go_loopw [] (fun wr => ∃ l', At n₀ wr R raw l' ∧ (∀ nv, toks nv l' = toks nv l) ∧ l'.length ≤ l.length ∧ w.grownBy wr (some R)) (fun wr => lenOf raw wr R)
  case atStart => exact ⟨l, h, fun _ => rfl, Nat.le_refl _, World.grownBy.refl _ _⟩
  case round =>
    obtain ⟨l', h', e', hl', g'⟩ := hrel
    have hm := h'.lenOf
    have h1 := ahead_any 0 (by omega) h'
    have h3 := fun w1 (g : wr.grownBy w1 none) => ahead_any 1 (by omega) (h'.kept g)
    by_cases hcd : see l' 0 = 47 ∧ see l' 1 = 42
    · obtain ⟨r, rfl⟩ : ∃ r, l' = 47 :: 42 :: r := by
        match l', hcd with
        | [], hcd => exact absurd hcd.1 (by decide)
        | [x], hcd => exact absurd hcd.2 (by simp [see])
        | x :: y :: r, hcd =>
          rw [see_zero, see_succ, see_zero] at hcd
          exact ⟨r, by rw [hcd.1, hcd.2]⟩
      have hlen := skipC_len r
      have e2 : ∀ nv, toks nv (skipC r) = toks nv l := fun nv => by rw [← toks_comment]; exact e' nv
      rw [see_zero] at h1
      simp only [see_succ, see_zero] at h3
      clear hcd e'
      go_wp2_with fail
      refine h1.mono ?_
      rintro e w1 ⟨rfl, g1⟩
      go_wp2_with fail
      refine (h3 _ g1).mono ?_
      rintro e w2 ⟨rfl, g2⟩
      have g12 := g1.trans g2
      obtain ⟨a, c1, f1, ha, _, _, k1⟩ := (h'.kept g12).open' (by simp)
      replace k1 : At n₀ _ R raw r := k1 (by simp)
      have g3 := (g'.trans (grown_but g12 _)).trans (grown_set1 w2 R (.int .i64 ((a : Int) + 2)))
      have h4 := passComment_any k1
      go_wp2_with fail
      refine h4.mono ?_
      rintro e w4 ⟨rfl, k4, g4⟩
      have hm4 := k4.lenOf
      go_wp2
      refine ⟨⟨_, k4, e2, ?_, g3.trans g4⟩, ?_⟩
      · simp only [List.length_cons] at hl'
        omega
      · rw [hm, hm4]
        simp only [List.length_cons]
        omega
    · have hfin := hcd
      by_cases hc : see l' 0 = 47
      · have hd : (see l' 1 == 42) = false := by simp; omega
        rw [hc] at h1
        have HF : Hid (¬ (see l' 0 = 47 ∧ see l' 1 = 42)) := hfin
        clear hcd hc hfin
        go_wp2_with fail
        refine h1.mono ?_
        rintro e w1 ⟨rfl, g1⟩
        go_wp2_with fail
        refine (h3 _ g1).mono ?_
        rintro e w2 ⟨rfl, g2⟩
        have g12 := g1.trans g2
        go_wp2
        go_returns
        exact ⟨rfl, l', h'.kept g12, e', HF, hl', g'.trans (grown_but g12 _)⟩
      · have hd : (see l' 0 == 47) = false := by simpa using hc
        have HF : Hid (¬ (see l' 0 = 47 ∧ see l' 1 = 42)) := hfin
        clear hcd hc hfin
        go_wp2_with fail
        refine h1.mono ?_
        rintro e w1 ⟨rfl, g1⟩
        go_wp2
        go_returns
        exact ⟨rfl, l', h'.kept g1, e', HF, hl', g'.trans (grown_but g1 _)⟩

end Go.Proofs.YtlgfmncflnipgaaDoor
