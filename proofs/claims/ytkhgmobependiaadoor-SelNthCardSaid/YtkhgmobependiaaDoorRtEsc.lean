/- The document's own reader: escapes. -/
import Derived.Test.YtkhgmobependiaaDoorRtGa
namespace Go.Proofs.YtkhgmobependiaaDoor.Ref
open Go Go.RowKit

theorem At.step {W : World} {n₀ R : Nat} {raw l : List Int} {c : Int} (h : At n₀ W R raw (c :: l)) : ∃ a : Nat, W.cell? ⟨R, 1, none⟩ = some (.int .i64 a) ∧ W.frozen? ⟨R, 1, none⟩ = false ∧ (a : Int) ≤ 1000002 ∧
    ∀ u, u = .int .i64 ((a : Int) + 1) → At n₀ (W.setCell ⟨R, 1, none⟩ u) R raw l ∧ W.grownBy (W.setCell ⟨R, 1, none⟩ u) (some R) := by
  obtain ⟨a, h1, h2, h3, h4, h5, _⟩ := h.cell
  exact ⟨a, h1, h2, h3, fun u e => ⟨by rw [e]; exact h4 1 (by simp) (h5 (by simp)), grown_set1 _ _ _⟩⟩
theorem At.step2 {W : World} {n₀ R : Nat} {raw l : List Int} {c d : Int} (h : At n₀ W R raw (c :: d :: l)) : ∃ a : Nat, W.cell? ⟨R, 1, none⟩ = some (.int .i64 a) ∧ W.frozen? ⟨R, 1, none⟩ = false ∧ (a : Int) ≤ 1000002 ∧
    ∀ u, u = .int .i64 ((a : Int) + 2) → At n₀ (W.setCell ⟨R, 1, none⟩ u) R raw l ∧ W.grownBy (W.setCell ⟨R, 1, none⟩ u) (some R) := by
  obtain ⟨a, h1, h2, h3, h4, h5, _⟩ := h.cell
  exact ⟨a, h1, h2, h3, fun u e => ⟨by rw [e]; exact h4 2 (by simp) (h5 (by simp)), grown_set1 _ _ _⟩⟩

theorem hexv_le (c : Int) : hexv c ≤ 15 := by
  unfold hexv
  split
  · omega
  · split
    · omega
    · split <;> omega
theorem hexv_none : hexv (-1) = -1 := by decide
theorem hexPoint_bad {n : Int} (h : n = 0 ∨ rightB n = false) (h0 : 0 ≤ n) : hexPoint n = 65533 := by
  unfold hexPoint
  rw [if_pos]
  rcases h with h | h
  · exact .inl h
  · have : ¬ (0 ≤ n ∧ n ≤ 1114111 ∧ (n < 55296 ∨ 57343 < n)) := fun e => by rw [rightB_true e] at h; cases h
    omega
theorem hexPoint_good {n : Int} (h : n ≠ 0) (hr : rightB n = true) : hexPoint n = n := by
  have := rightB_iff.1 hr
  unfold hexPoint
  rw [if_neg (by omega)]

/-- How the digits are gone over: what is left to do. -/
def Hx (n₀ : Nat) (w : World) (R : Nat) (raw : List Int) (all : Int × List Int) (k : Nat) (n : Int) (l : List Int) (W : World) : Prop :=
  k ≤ 6 ∧ 0 ≤ n ∧ n ≤ 16777215 ∧ n < 16 ^ k ∧ hexRun (6 - k) n l = all ∧ At n₀ W R raw l ∧ w.grownBy W (some R)
theorem Hx.more {n₀ : Nat} {w : World} {R : Nat} {raw : List Int} {all : Int × List Int} {k : Nat} {n c : Int} {l : List Int} {W W' : World} (h : Hx n₀ w R raw all k n (c :: l) W) (hk : k < 6) (hc : 0 ≤ hexv c) (hA : At n₀ W' R raw l) (hg : w.grownBy W' (some R)) :
    Hx n₀ w R raw all (k + 1) (n * 16 + hexv c) l W' := by
  obtain ⟨h1, h2, h3, h4, h5, _, _⟩ := h
  have := hexv_le c
  have hp : (16 : Int) ^ (k + 1) = 16 ^ k * 16 := Int.pow_succ 16 k
  have hb : (16 : Int) ^ (k + 1) ≤ 16777216 := by
    have : k = 0 ∨ k = 1 ∨ k = 2 ∨ k = 3 ∨ k = 4 ∨ k = 5 := by omega
    rcases this with rfl | rfl | rfl | rfl | rfl | rfl <;> decide
  refine ⟨by omega, by omega, by omega, by omega, ?_, hA, hg⟩
  rw [← h5, show 6 - k = (6 - (k + 1)) + 1 by omega, hexRun, if_pos hc]
theorem Hx.done {n₀ : Nat} {w : World} {R : Nat} {raw : List Int} {all : Int × List Int} {k : Nat} {n : Int} {l : List Int} {W : World} (h : Hx n₀ w R raw all k n l W) (hd : ¬ k < 6 ∨ hexv (see l 0) < 0) : all = (n, l) := by
  obtain ⟨h1, _, _, _, h5, _, _⟩ := h
  rw [← h5]
  rcases hd with hd | hd
  · rw [show 6 - k = 0 by omega]
    rfl
  · cases l with
    | nil => cases 6 - k <;> rfl
    | cons c r =>
      rw [see_zero] at hd
      cases 6 - k with
      | zero => rfl
      | succ j => rw [hexRun, if_neg (by omega)]

set_option maxRecDepth 100000 in
set_option maxHeartbeats 4000000 in
theorem escaped_any {w : World} {n₀ R : Nat} {raw r : List Int} {c d : Int} (h : At n₀ w R raw (c :: d :: r)) : ∀ W0, w.grownBy W0 none →
    Calls Tryd.prog 31 #[.pointer (some ⟨R, 0, none⟩)] W0 fun e w' => e = .returned (.int .i64 (escd (c :: d :: r)).1) ∧ At n₀ w' R raw (escd (c :: d :: r)).2 ∧ w.grownBy w' (some R) := by
  intro W0 g0
  obtain ⟨a, ca, fa, ha, hs⟩ := (h.kept g0).step
  have hx := hex_any d
  by_cases hd : hexv d < 0
  · rw [show escd (c :: d :: r) = (d, r) by unfold escd; rw [show see (c :: d :: r) 1 = d from rfl, if_pos hd]; rfl]
    clear h
    go_enter Tryd.func31, Tryd.ntmps31
    go_wp2_with fail
    obtain ⟨k1, g1⟩ := hs _ rfl
    clear hs ca fa
    generalize World.setCell W0 _ _ = W1 at *
    have s0 := see0 k1 _ (World.grownBy.refl _ _)
    rw [see_zero] at s0
    refine s0.mono ?_
    rintro e W2 ⟨rfl, g2⟩
    go_wp2_with fail
    refine (hx _).mono ?_
    rintro e w' ⟨rfl, rfl⟩
    obtain ⟨a2, ca2, fa2, ha2, hs2⟩ := (k1.kept g2).step
    clear s0
    go_wp2
    obtain ⟨k3, g3⟩ := hs2 _ rfl
    go_ret
    exact ⟨rfl, k3, ((grown_but g0 _).trans g1).trans ((grown_but g2 _).trans g3)⟩
  · obtain ⟨all, hall⟩ : ∃ all, all = hexRun 6 0 (d :: r) := ⟨_, rfl⟩
    have he : escd (c :: d :: r) = (hexPoint all.1, if isWhite (see all.2 0) then all.2.tail else all.2) := by
      unfold escd
      rw [show see (c :: d :: r) 1 = d from rfl, if_neg hd, hall]
      rfl
    obtain ⟨Y, L, hYL⟩ : ∃ Y L, escd (c :: d :: r) = (Y, L) := ⟨_, _, rfl⟩
    have HE : Hid ((hexPoint all.1, if isWhite (see all.2 0) then all.2.tail else all.2) = (Y, L)) := he.symm.trans hYL
    rw [hYL]
    clear he h hYL
    go_enter Tryd.func31, Tryd.ntmps31
    go_wp2_with fail
    obtain ⟨k1, g1⟩ := hs _ rfl
    clear hs ca fa
    generalize World.setCell W0 _ _ = W1 at *
    have s0 := see0 k1 _ (World.grownBy.refl _ _)
    rw [see_zero] at s0
    refine s0.mono ?_
    rintro e W2 ⟨rfl, g2⟩
    go_wp2_with fail
    refine (hx _).mono ?_
    rintro e W2 ⟨rfl, rfl⟩
    have H2 : Hx n₀ w R raw all 0 0 (d :: r) W2 := ⟨by omega, by omega, by omega, by decide, hall.symm, k1.kept g2, ((grown_but g0 _).trans g1).trans (grown_but g2 _)⟩
    clear s0 g1 g2 k1 hall hx g0
    go_wp2
    go_loopw [4, 5] (fun x y wr => ∃ (n : Int) (k : Nat) (l : List Int), x = .int .i64 n ∧ y = .int .i64 k ∧ Hx n₀ w R raw all k n l wr) (fun _ y _ => 6 - (intOf y).toNat)
    case atStart => exact ⟨0, 0, d :: r, rfl, rfl, H2⟩
    case round =>
      clear H2
      obtain ⟨n, k, l, rfl, rfl, H⟩ := hrel
      have hk6 := H.1
      have hn0 := H.2.1
      have hn1 := H.2.2.1
      have k0 := H.2.2.2.2.2.1
      have G := H.2.2.2.2.2.2
      by_cases hk : k < 6
      · have hki : (k : Int) < 6 := by omega
        have hx := hex_any (see l 0)
        by_cases hc : 0 ≤ hexv (see l 0)
        · obtain ⟨c0, l0, rfl⟩ : ∃ c0 l0, l = c0 :: l0 := List.exists_cons_of_ne_nil (fun e => by rw [e] at hc; exact absurd hc (by decide))
          rw [see_zero] at hc hx
          have s0 := see0 k0
          rw [see_zero] at s0
          have hle := hexv_le c0
          have hw : n * 16 + hexv c0 ≤ 268435456 := by omega
          have fin := fun W' (hA : At n₀ W' R raw l0) (hg : w.grownBy W' (some R)) => H.more hk hc hA hg
          clear H
          generalize hexv c0 = v at *
          go_wp2_with fail
          refine (s0 _ (World.grownBy.refl _ _)).mono ?_
          rintro e W3 ⟨rfl, g3⟩
          go_wp2_with fail
          refine (hx _).mono ?_
          rintro e w' ⟨rfl, rfl⟩
          go_wp2_with fail
          refine (s0 _ g3).mono ?_
          rintro e W4 ⟨rfl, g4⟩
          go_wp2_with fail
          refine (hx _).mono ?_
          rintro e w' ⟨rfl, rfl⟩
          obtain ⟨a2, ca2, fa2, ha2, hs2⟩ := (k0.kept g4).step
          go_wp2
          obtain ⟨k5, g5⟩ := hs2 _ rfl
          exact ⟨⟨_, k + 1, l0, rfl, by go_num, fin _ k5 ((G.trans (grown_but g4 _)).trans g5)⟩, by simp [intOf]; omega⟩
        · obtain rfl := H.done (.inr (by omega))
          have s0 := see0 k0
          have hw := white_any (see l 0)
          have hr := right_any n
          clear H
          have g0 : wr.grownBy wr none := World.grownBy.refl _ _
          have hpt : ∀ y, (y = 65533 ∧ (n = 0 ∨ rightB n = false)) ∨ (y = n ∧ n ≠ 0 ∧ rightB n = true) → Ending.returned (.int .i64 y) = .returned (.int .i64 Y) := fun y hy => by
            have e1 : hexPoint n = Y := congrArg Prod.fst (show _ = _ from HE)
            rw [← e1]
            rcases hy with ⟨rfl, hy⟩ | ⟨rfl, h1, h2⟩
            · rw [hexPoint_bad hy hn0]
            · rw [hexPoint_good h1 h2]
          cases hWb : isWhite (see l 0) with
          | true =>
            rw [hWb] at hw
            obtain ⟨c0, l0, rfl⟩ : ∃ c0 l0, l = c0 :: l0 := List.exists_cons_of_ne_nil (fun e => by rw [e] at hWb; exact absurd hWb (by decide))
            have hL : L = l0 := by
              have e : (if isWhite (see (c0 :: l0) 0) then l0 else (c0 :: l0)) = L := congrArg Prod.snd (show _ = _ from HE)
              rw [hWb] at e
              exact e.symm
            subst hL
            clear hWb HE
            go_wp2_with fail
            refine (s0 _ g0).mono ?_
            rintro e W1 ⟨rfl, g1⟩
            go_wp2_with fail
            refine (hx _).mono ?_
            rintro e W1 ⟨rfl, rfl⟩
            go_wp2_with fail
            refine (s0 _ g1).mono ?_
            rintro e W2 ⟨rfl, g2⟩
            go_wp2_with fail
            refine (hw _).mono ?_
            rintro e W2 ⟨rfl, rfl⟩
            obtain ⟨a2, ca2, fa2, ha2, hs2⟩ := (k0.kept g2).step
            by_cases hz : n = 0
            · have hq := hpt 65533 (.inl ⟨rfl, .inl hz⟩)
              clear hpt
              subst hz
              go_wp2
              obtain ⟨k5, g5⟩ := hs2 _ rfl
              go_ret
              exact ⟨hq, k5, (G.trans (grown_but g2 _)).trans g5⟩
            · have hz' : (n == 0) = false := by simpa using hz
              cases hrb : rightB n with
              | true =>
                rw [hrb] at hr
                go_wp2_with fail
                obtain ⟨k5, g5⟩ := hs2 _ rfl
                refine (hr _).mono ?_
                rintro e W3 ⟨rfl, h3⟩
                subst h3
                go_wp2
                go_ret
                exact ⟨hpt _ (.inr ⟨rfl, hz, hrb⟩), k5, (G.trans (grown_but g2 _)).trans g5⟩
              | false =>
                rw [hrb] at hr
                go_wp2_with fail
                obtain ⟨k5, g5⟩ := hs2 _ rfl
                refine (hr _).mono ?_
                rintro e W3 ⟨rfl, h3⟩
                subst h3
                go_wp2
                go_ret
                exact ⟨hpt _ (.inl ⟨rfl, .inr hrb⟩), k5, (G.trans (grown_but g2 _)).trans g5⟩
          | false =>
            rw [hWb] at hw
            have hL : L = l := by
              have e : (if isWhite (see l 0) then l.tail else l) = L := congrArg Prod.snd (show _ = _ from HE)
              rw [hWb] at e
              exact e.symm
            subst hL
            clear hWb HE
            go_wp2_with fail
            refine (s0 _ g0).mono ?_
            rintro e W1 ⟨rfl, g1⟩
            go_wp2_with fail
            refine (hx _).mono ?_
            rintro e W1 ⟨rfl, rfl⟩
            go_wp2_with fail
            refine (s0 _ g1).mono ?_
            rintro e W2 ⟨rfl, g2⟩
            go_wp2_with fail
            refine (hw _).mono ?_
            rintro e W2 ⟨rfl, rfl⟩
            by_cases hz : n = 0
            · have hq := hpt 65533 (.inl ⟨rfl, .inl hz⟩)
              clear hpt
              subst hz
              go_wp2
              go_ret
              exact ⟨hq, k0.kept g2, G.trans (grown_but g2 _)⟩
            · have hz' : (n == 0) = false := by simpa using hz
              cases hrb : rightB n with
              | true =>
                rw [hrb] at hr
                go_wp2_with fail
                refine (hr _).mono ?_
                rintro e W3 ⟨rfl, h3⟩
                subst h3
                go_wp2
                go_ret
                exact ⟨hpt _ (.inr ⟨rfl, hz, hrb⟩), k0.kept g2, G.trans (grown_but g2 _)⟩
              | false =>
                rw [hrb] at hr
                go_wp2_with fail
                refine (hr _).mono ?_
                rintro e W3 ⟨rfl, h3⟩
                subst h3
                go_wp2
                go_ret
                exact ⟨hpt _ (.inl ⟨rfl, .inr hrb⟩), k0.kept g2, G.trans (grown_but g2 _)⟩
      · have hki : ¬ (k : Int) < 6 := by omega
        obtain rfl := H.done (.inl hk)
        have s0 := see0 k0
        have hw := white_any (see l 0)
        have hr := right_any n
        clear H
        have g0 : wr.grownBy wr none := World.grownBy.refl _ _
        have hpt : ∀ y, (y = 65533 ∧ (n = 0 ∨ rightB n = false)) ∨ (y = n ∧ n ≠ 0 ∧ rightB n = true) → Ending.returned (.int .i64 y) = .returned (.int .i64 Y) := fun y hy => by
          have e1 : hexPoint n = Y := congrArg Prod.fst (show _ = _ from HE)
          rw [← e1]
          rcases hy with ⟨rfl, hy⟩ | ⟨rfl, h1, h2⟩
          · rw [hexPoint_bad hy hn0]
          · rw [hexPoint_good h1 h2]
        cases hWb : isWhite (see l 0) with
        | true =>
          rw [hWb] at hw
          obtain ⟨c0, l0, rfl⟩ : ∃ c0 l0, l = c0 :: l0 := List.exists_cons_of_ne_nil (fun e => by rw [e] at hWb; exact absurd hWb (by decide))
          have hL : L = l0 := by
            have e : (if isWhite (see (c0 :: l0) 0) then l0 else (c0 :: l0)) = L := congrArg Prod.snd (show _ = _ from HE)
            rw [hWb] at e
            exact e.symm
          subst hL
          clear hWb HE
          go_wp2_with fail
          refine (s0 _ g0).mono ?_
          rintro e W2 ⟨rfl, g2⟩
          go_wp2_with fail
          refine (hw _).mono ?_
          rintro e W2 ⟨rfl, rfl⟩
          obtain ⟨a2, ca2, fa2, ha2, hs2⟩ := (k0.kept g2).step
          by_cases hz : n = 0
          · have hq := hpt 65533 (.inl ⟨rfl, .inl hz⟩)
            clear hpt
            subst hz
            go_wp2
            obtain ⟨k5, g5⟩ := hs2 _ rfl
            go_ret
            exact ⟨hq, k5, (G.trans (grown_but g2 _)).trans g5⟩
          · have hz' : (n == 0) = false := by simpa using hz
            cases hrb : rightB n with
            | true =>
              rw [hrb] at hr
              go_wp2_with fail
              obtain ⟨k5, g5⟩ := hs2 _ rfl
              refine (hr _).mono ?_
              rintro e W3 ⟨rfl, h3⟩
              subst h3
              go_wp2
              go_ret
              exact ⟨hpt _ (.inr ⟨rfl, hz, hrb⟩), k5, (G.trans (grown_but g2 _)).trans g5⟩
            | false =>
              rw [hrb] at hr
              go_wp2_with fail
              obtain ⟨k5, g5⟩ := hs2 _ rfl
              refine (hr _).mono ?_
              rintro e W3 ⟨rfl, h3⟩
              subst h3
              go_wp2
              go_ret
              exact ⟨hpt _ (.inl ⟨rfl, .inr hrb⟩), k5, (G.trans (grown_but g2 _)).trans g5⟩
        | false =>
          rw [hWb] at hw
          have hL : L = l := by
            have e : (if isWhite (see l 0) then l.tail else l) = L := congrArg Prod.snd (show _ = _ from HE)
            rw [hWb] at e
            exact e.symm
          subst hL
          clear hWb HE
          go_wp2_with fail
          refine (s0 _ g0).mono ?_
          rintro e W2 ⟨rfl, g2⟩
          go_wp2_with fail
          refine (hw _).mono ?_
          rintro e W2 ⟨rfl, rfl⟩
          by_cases hz : n = 0
          · have hq := hpt 65533 (.inl ⟨rfl, .inl hz⟩)
            clear hpt
            subst hz
            go_wp2
            go_ret
            exact ⟨hq, k0.kept g2, G.trans (grown_but g2 _)⟩
          · have hz' : (n == 0) = false := by simpa using hz
            cases hrb : rightB n with
            | true =>
              rw [hrb] at hr
              go_wp2_with fail
              refine (hr _).mono ?_
              rintro e W3 ⟨rfl, h3⟩
              subst h3
              go_wp2
              go_ret
              exact ⟨hpt _ (.inr ⟨rfl, hz, hrb⟩), k0.kept g2, G.trans (grown_but g2 _)⟩
            | false =>
              rw [hrb] at hr
              go_wp2_with fail
              refine (hr _).mono ?_
              rintro e W3 ⟨rfl, h3⟩
              subst h3
              go_wp2
              go_ret
              exact ⟨hpt _ (.inl ⟨rfl, .inr hrb⟩), k0.kept g2, G.trans (grown_but g2 _)⟩

end Go.Proofs.YtkhgmobependiaaDoor.Ref
