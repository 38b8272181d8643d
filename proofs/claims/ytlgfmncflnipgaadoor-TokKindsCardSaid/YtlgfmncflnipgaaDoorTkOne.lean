/- package tok's reader: one token, whichever it is. -/
import Derived.Test.YtlgfmncflnipgaaDoorTkTok
namespace Go.Proofs.YtlgfmncflnipgaaDoor
open Go Go.RowKit Go.Shelf

/-- What is known behind a callee that told the token k: it is stored in the result's block. -/
theorem store_end {w W : World} {n₀ R : Nat} {raw l' : List Int} {a b c d e : Value} (t : Five W w.heap.size a b c d e) (k : At n₀ W R raw l') (hR : R < w.heap.size) (g : w.grownBy W (some R)) (a' b' c' d' e' : Value) :
    Five (setAll W w.heap.size a' b' c' d' e') w.heap.size a' b' c' d' e' ∧ At n₀ (setAll W w.heap.size a' b' c' d' e') R raw l' ∧ w.grownBy (setAll W w.heap.size a' b' c' d' e') (some R) :=
  ⟨t.set _ _ _ _ _, k.kept_other (grown_setAll _ _ _ _ _ _ _) hR, grown_out g (Nat.le_refl _) (grown_setAll _ _ _ _ _ _ _)⟩

theorem strTk_eq (o : Option (List Int)) : strTk o = (match o with | some t => ⟨4, t, 0, false, 0⟩ | none => ⟨5, [], 0, false, 0⟩ : Tk) := rfl

set_option maxRecDepth 100000 in
set_option maxHeartbeats 4000000 in
theorem token_any {w : World} {n₀ R : Nat} {raw r : List Int} {c : Int} (h : At n₀ w R raw (c :: r)) (hnc : ¬ (c = 47 ∧ see r 0 = 42)) (hT : RTabs R w) :
    Calls Tryd.prog 24 #[.pointer (some ⟨R, 0, none⟩)] w fun e w' => ∃ k l', step nvOf (c :: r) = (some k, l') ∧ e = .returned (tkV k) ∧ At n₀ w' R raw l' ∧ w.grownBy w' (some R) := by
  have hR := h.lt
  have hstep : Hid (step nvOf (c :: r) = _) := rfl
  have e1 : see (c :: r) 1 = see r 0 := see_succ _ _ _
  have et : (c :: r).tail = r := rfl
  unfold step at hstep
  rw [see_zero, e1, et] at hstep
  have HS : Hid (step nvOf (c :: r) = if isWhite c then (some ⟨9, [], 0, false, 0⟩, (c :: r).dropWhile isWhite)
    else if c = 34 ∨ c = 39 then (some (strTk (str c r).1), (str c r).2)
    else if c = 35 ∧ (namePt (see r 0) || escAt r) = true then (some ⟨3, (name r).1, 0, false, 0⟩, (name r).2)
    else if begNum (c :: r) then (some (numeric nvOf (c :: r)).1, (numeric nvOf (c :: r)).2)
    else if c = 64 ∧ begName r = true then (some ⟨2, (name r).1, 0, false, 0⟩, (name r).2)
    else if begName (c :: r) then
      if see (name (c :: r)).2 0 = 40 then (some ⟨20, (name (c :: r)).1, 0, false, 0⟩, (name (c :: r)).2.tail) else (some ⟨1, (name (c :: r)).1, 0, false, 0⟩, (name (c :: r)).2)
    else if 0 < sign c then (some ⟨sign c, [], 0, false, 0⟩, r)
    else (some ⟨10, [], 0, false, c⟩, r)) := by
    show _ = _
    unfold step
    rw [see_zero, e1, et, if_neg hnc]
    rfl
  clear hstep e1 hnc
  have t0 := Five.new w (.int .i64 0) (.string ⟨#[]⟩) (.int .i64 0) (.bool false) (.int .i64 0)
  have g0 : w.grownBy (w.alloc (.cells #[.int .i64 0, .string ⟨#[]⟩, .int .i64 0, .bool false, .int .i64 0] 27)) none := World.grownBy_alloc _ _ _
  have h0 := ahead_any 0 (by omega) (h.kept g0)
  rw [see_zero] at h0
  have q1 := isWhite_any c
  have G : ∀ w1, w.grownBy w1 none → At n₀ w1 R raw (c :: r) ∧ RTabs R w1 := fun w1 g => ⟨h.kept g, hT.below (below_of_still g R (Nat.le_of_lt hR) (row := none) rfl)⟩
  clear h hT
  go_enter Tryd.func24, Tryd.ntmps24
  go_wp2_with fail
  refine h0.mono ?_
  clear h0
  rintro e w1 ⟨rfl, g1⟩
  replace t0 := t0.kept g1 (by simp)
  replace g1 := g0.trans g1
  clear g0
  go_wp2_with fail
  refine (q1 _).mono ?_
  clear q1
  rintro e w' ⟨rfl, rfl⟩
  cases hw : isWhite c with
  | true =>
    rw [hw, if_pos rfl] at HS
    have h1 := white_any (G _ g1).1
    generalize (c :: r).dropWhile isWhite = l' at *
    clear hw
    go_wp2_with fail
    refine h1.mono ?_
    rintro e w2 ⟨rfl, k2, g2⟩
    replace t0 := t0.kept g2 (by simp; omega)
    obtain ⟨c0, c1, c2, c3, c4⟩ := t0.cells
    obtain ⟨f0, f1, f2, f3, f4⟩ := t0.free
    go_wp2
    obtain ⟨x1, x2, x3⟩ := store_end t0 k2 hR ((grown_but g1 _).trans g2) (.int .i64 9) (.string ⟨#[]⟩) (.int .i64 0) (.bool false) (.int .i64 0)
    refine bodyPost_ret (x1.ret rfl _ rfl) rfl ?_
    exact ⟨_, _, HS, rfl, x2, x3⟩
  | false =>
    rw [hw, if_neg (by decide)] at HS
    clear hw
    by_cases hq : c = 34 ∨ c = 39
    · rw [if_pos hq] at HS
      have h1 := quoted_any (G _ g1).1 hq
      generalize (str c r).2 = l' at *
      generalize strTk (str c r).1 = k at *
      unfold tkV at h1
      rcases hq with rfl | rfl
      · go_wp2_with fail
        refine h1.mono ?_
        clear h1
        rintro e w2 ⟨rfl, k2, g2⟩
        replace t0 := t0.kept g2 (by simp; omega)
        obtain ⟨c0, c1, c2, c3, c4⟩ := t0.cells
        obtain ⟨f0, f1, f2, f3, f4⟩ := t0.free
        go_wp2
        obtain ⟨x1, x2, x3⟩ := store_end t0 k2 hR ((grown_but g1 _).trans g2) (.int .i64 k.kind) (.string (txtOf k.text)) (.int .i64 k.n) (.bool k.whole) (.int .i64 k.c)
        refine bodyPost_ret (x1.ret rfl _ rfl) rfl ?_
        exact ⟨_, _, HS, rfl, x2, x3⟩
      · go_wp2_with fail
        refine h1.mono ?_
        clear h1
        rintro e w2 ⟨rfl, k2, g2⟩
        replace t0 := t0.kept g2 (by simp; omega)
        obtain ⟨c0, c1, c2, c3, c4⟩ := t0.cells
        obtain ⟨f0, f1, f2, f3, f4⟩ := t0.free
        go_wp2
        obtain ⟨x1, x2, x3⟩ := store_end t0 k2 hR ((grown_but g1 _).trans g2) (.int .i64 k.kind) (.string (txtOf k.text)) (.int .i64 k.n) (.bool k.whole) (.int .i64 k.c)
        refine bodyPost_ret (x1.ret rfl _ rfl) rfl ?_
        exact ⟨_, _, HS, rfl, x2, x3⟩
    · rw [if_neg hq] at HS
      have hq1 : (c == 34) = false := by simp; omega
      have hq2 : (c == 39) = false := by simp; omega
      have hn1 : c ≠ 34 := by omega
      have hn2 : c ≠ 39 := by omega
      clear hq
      go_upto_region 6 with fail
      go_cut [20] (fun s20 wx => s20 = .bool (c == 35 && (namePt (see r 0) || escAt r)) ∧ w'.grownBy wx none)
      case first =>
        clear HS
        have h1 := ahead_any 1 (by omega) (G _ g1).1
        rw [see_succ] at h1
        have h2 := isNamePoint_any (see r 0)
        have h3 : ∀ w2, w'.grownBy w2 none → Calls Tryd.prog 39 #[.pointer (some ⟨R, 0, none⟩), .int .i64 1] w2 fun e w' => e = .returned (.bool (escAt r)) ∧ w2.grownBy w' none := fun w2 g => escapes_any 1 (by omega) (G _ (g1.trans g)).1
        clear G t0
        generalize namePt (see r 0) = a at *
        generalize escAt r = b at *
        generalize see r 0 = d at *
        by_cases h35 : c = 35
        · subst h35
          cases a with
          | true =>
            go_wp2_with fail
            refine h1.mono ?_
            rintro e w2 ⟨rfl, g2⟩
            go_wp2_with fail
            refine (h2 _).mono ?_
            rintro e w' ⟨rfl, rfl⟩
            go_wp2
            go_meet
            exact ⟨rfl, g2⟩
          | false =>
            go_wp2_with fail
            refine h1.mono ?_
            rintro e w2 ⟨rfl, g2⟩
            go_wp2_with fail
            refine (h2 _).mono ?_
            rintro e w' ⟨rfl, rfl⟩
            go_wp2_with fail
            refine (h3 _ g2).mono ?_
            rintro e w3 ⟨rfl, g3⟩
            go_wp2
            go_meet
            exact ⟨rfl, g2.trans g3⟩
        · have h35' : (c == 35) = false := by simpa using h35
          go_wp2
          go_meet
          exact ⟨by rw [h35']; rfl, World.grownBy.refl _ _⟩
      case rest =>
        obtain ⟨rfl, g2⟩ := hcut
        replace t0 := t0.kept g2 (by simp)
        replace g1 := g1.trans g2
        clear g2
        have hb : (c = 35 ∧ (namePt (see r 0) || escAt r) = true) = ((c == 35 && (namePt (see r 0) || escAt r)) = true) := by simp
        simp only [hb] at HS
        clear hb
        generalize (c == 35 && (namePt (see r 0) || escAt r)) = b20 at *
        cases b20 with
        | true =>
          rw [if_pos rfl] at HS
          have h1 := marked_any 3 (G _ g1).1
          unfold tkV at h1
          generalize (name r).2 = l' at *
          generalize (name r).1 = tt at *
          go_wp2_with fail
          refine h1.mono ?_
          clear h1
          rintro e w2 ⟨rfl, k2, g2⟩
          replace t0 := t0.kept g2 (by simp; omega)
          obtain ⟨c0, c1, c2, c3, c4⟩ := t0.cells
          obtain ⟨f0, f1, f2, f3, f4⟩ := t0.free
          go_wp2
          obtain ⟨x1, x2, x3⟩ := store_end t0 k2 hR ((grown_but g1 _).trans g2) (.int .i64 3) (.string (txtOf tt)) (.int .i64 0) (.bool false) (.int .i64 0)
          refine bodyPost_ret (x1.ret rfl _ rfl) rfl ?_
          exact ⟨_, _, HS, rfl, x2, x3⟩
        | false =>
          rw [if_neg (by decide)] at HS
          have h1 := numberBegins_any (G _ g1).1
          cases hbn : begNum (c :: r) with
          | true =>
            rw [hbn, if_pos rfl] at HS
            have h2 : ∀ w2, w.grownBy w2 none → _ := fun w2 g => number_any (G w2 g).1 hbn (G w2 g).2.2
            rw [hbn] at h1
            clear hbn
            go_wp2_with fail
            refine h1.mono ?_
            clear h1
            rintro e w2 ⟨rfl, g2⟩
            replace t0 := t0.kept g2 (by simp)
            replace g1 := g1.trans g2
            clear g2
            go_wp2_with fail
            refine (h2 _ g1).mono ?_
            clear h2
            rintro e w3 ⟨k, l', hk, rfl, k2, g2⟩
            rw [hk] at HS
            clear hk
            replace t0 := t0.kept g2 (by simp; omega)
            unfold tkV
            obtain ⟨c0, c1, c2, c3, c4⟩ := t0.cells
            obtain ⟨f0, f1, f2, f3, f4⟩ := t0.free
            go_wp2
            obtain ⟨x1, x2, x3⟩ := store_end t0 k2 hR ((grown_but g1 _).trans g2) (.int .i64 k.kind) (.string (txtOf k.text)) (.int .i64 k.n) (.bool k.whole) (.int .i64 k.c)
            refine bodyPost_ret (x1.ret rfl _ rfl) rfl ?_
            exact ⟨_, _, HS, rfl, x2, x3⟩
          | false =>
            rw [hbn, if_neg (by decide)] at HS
            rw [hbn] at h1
            clear hbn
            go_wp2_with fail
            refine h1.mono ?_
            clear h1
            rintro e w2 ⟨rfl, g2⟩
            replace t0 := t0.kept g2 (by simp)
            replace g1 := g1.trans g2
            clear g2
            go_upto_region 10 with fail
            go_cut [39] (fun s39 wx => s39 = .bool (c == 64 && begName r) ∧ w2.grownBy wx none)
            case first =>
              clear HS t0
              have h1 : Calls Tryd.prog 43 #[.pointer (some ⟨R, 0, none⟩), .int .i64 1] w2 fun e w' => e = .returned (.bool (begName r)) ∧ w2.grownBy w' none := nameBegins_any 1 (by omega) (G _ g1).1
              clear G
              generalize begName r = b at *
              by_cases h64 : c = 64
              · subst h64
                go_wp2_with fail
                refine h1.mono ?_
                rintro e w3 ⟨rfl, g3⟩
                go_wp2
                go_meet
                exact ⟨rfl, g3⟩
              · have h64' : (c == 64) = false := by simpa using h64
                go_wp2
                go_meet
                exact ⟨by rw [h64']; rfl, World.grownBy.refl _ _⟩
            case rest =>
              obtain ⟨rfl, g2⟩ := hcut
              replace t0 := t0.kept g2 (by simp)
              replace g1 := g1.trans g2
              clear g2
              have hb : (c = 64 ∧ begName r = true) = ((c == 64 && begName r) = true) := by simp
              simp only [hb] at HS
              clear hb
              generalize (c == 64 && begName r) = b39 at *
              cases b39 with
              | true =>
                rw [if_pos rfl] at HS
                have h1 := marked_any 2 (G _ g1).1
                unfold tkV at h1
                generalize (name r).2 = l' at *
                generalize (name r).1 = tt at *
                go_wp2_with fail
                refine h1.mono ?_
                clear h1
                rintro e w3 ⟨rfl, k2, g2⟩
                replace t0 := t0.kept g2 (by simp; omega)
                obtain ⟨c0, c1, c2, c3, c4⟩ := t0.cells
                obtain ⟨f0, f1, f2, f3, f4⟩ := t0.free
                go_wp2
                obtain ⟨x1, x2, x3⟩ := store_end t0 k2 hR ((grown_but g1 _).trans g2) (.int .i64 2) (.string (txtOf tt)) (.int .i64 0) (.bool false) (.int .i64 0)
                refine bodyPost_ret (x1.ret rfl _ rfl) rfl ?_
                exact ⟨_, _, HS, rfl, x2, x3⟩
              | false =>
                rw [if_neg (by decide)] at HS
                have h1 : ∀ w3, w.grownBy w3 none → Calls Tryd.prog 43 #[.pointer (some ⟨R, 0, none⟩), .int .i64 0] w3 fun e w' => e = .returned (.bool (begName (c :: r))) ∧ w3.grownBy w' none := fun w3 g => nameBegins_any 0 (by omega) (G w3 g).1
                cases hbn : begName (c :: r) with
                | true =>
                  rw [hbn, if_pos rfl] at HS
                  rw [hbn] at h1
                  clear hbn
                  have h2 := fun w3 (g : w.grownBy w3 none) => named_any (G w3 g).1
                  go_wp2_with fail
                  refine (h1 _ g1).mono ?_
                  clear h1
                  rintro e w3 ⟨rfl, g2⟩
                  replace t0 := t0.kept g2 (by simp)
                  replace g1 := g1.trans g2
                  clear g2
                  go_wp2_with fail
                  refine (h2 _ g1).mono ?_
                  clear h2
                  rintro e w4 ⟨k, l', hk, rfl, k2, g2⟩
                  have HS2 : Hid (step nvOf (c :: r) = (some k, l')) := by
                    show _ = _
                    rw [show step nvOf (c :: r) = _ from HS]
                    by_cases h40 : see (name (c :: r)).2 0 = 40
                    · rw [if_pos h40] at hk ⊢
                      rw [← (Prod.mk.inj hk).1, ← (Prod.mk.inj hk).2]
                    · rw [if_neg h40] at hk ⊢
                      rw [← (Prod.mk.inj hk).1, ← (Prod.mk.inj hk).2]
                  clear hk HS
                  have HS := HS2
                  clear HS2
                  replace t0 := t0.kept g2 (by simp; omega)
                  unfold tkV
                  obtain ⟨c0, c1, c2, c3, c4⟩ := t0.cells
                  obtain ⟨f0, f1, f2, f3, f4⟩ := t0.free
                  go_wp2
                  obtain ⟨x1, x2, x3⟩ := store_end t0 k2 hR ((grown_but g1 _).trans g2) (.int .i64 k.kind) (.string (txtOf k.text)) (.int .i64 k.n) (.bool k.whole) (.int .i64 k.c)
                  refine bodyPost_ret (x1.ret rfl _ rfl) rfl ?_
                  exact ⟨_, _, HS, rfl, x2, x3⟩
                | false =>
                  rw [hbn, if_neg (by decide)] at HS
                  rw [hbn] at h1
                  clear hbn
                  have h2 := fun w3 (g : w.grownBy w3 none) => single_any (G w3 g).1 (G w3 g).2.1
                  have HS2 : Hid (step nvOf (c :: r) = (some (if 0 < sign c then ⟨sign c, [], 0, false, 0⟩ else ⟨10, [], 0, false, c⟩), r)) := by
                    show _ = _
                    rw [show step nvOf (c :: r) = _ from HS]
                    split <;> rfl
                  clear HS
                  have HS := HS2
                  clear HS2
                  generalize (if 0 < sign c then (⟨sign c, [], 0, false, 0⟩ : Tk) else ⟨10, [], 0, false, c⟩) = k at *
                  unfold tkV at h2
                  go_wp2_with fail
                  refine (h1 _ g1).mono ?_
                  clear h1
                  rintro e w3 ⟨rfl, g2⟩
                  replace t0 := t0.kept g2 (by simp)
                  replace g1 := g1.trans g2
                  clear g2
                  go_wp2_with fail
                  refine (h2 _ g1).mono ?_
                  clear h2
                  rintro e w4 ⟨rfl, k2, g2⟩
                  replace t0 := t0.kept g2 (by simp; omega)
                  obtain ⟨c0, c1, c2, c3, c4⟩ := t0.cells
                  obtain ⟨f0, f1, f2, f3, f4⟩ := t0.free
                  go_wp2
                  obtain ⟨x1, x2, x3⟩ := store_end t0 k2 hR ((grown_but g1 _).trans g2) (.int .i64 k.kind) (.string (txtOf k.text)) (.int .i64 k.n) (.bool k.whole) (.int .i64 k.c)
                  refine bodyPost_ret (x1.ret rfl _ rfl) rfl ?_
                  exact ⟨_, _, HS, rfl, x2, x3⟩

end Go.Proofs.YtlgfmncflnipgaaDoor
