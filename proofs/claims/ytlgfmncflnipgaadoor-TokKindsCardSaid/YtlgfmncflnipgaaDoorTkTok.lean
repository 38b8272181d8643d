/- package tok's reader: one token. -/
import Derived.Test.YtlgfmncflnipgaaDoorTkNum
import Derived.Test.YtlgfmncflnipgaaDoorTkSign
namespace Go.Proofs.YtlgfmncflnipgaaDoor
open Go Go.RowKit Go.Shelf

/-- What the reader asks of the world: the table of signs, and what package num asks. -/
def RTabs (n₀ : Nat) (W : World) : Prop := SignsAt n₀ W ∧ Nm.Tabs n₀ W
theorem RTabs.below {n₀ : Nat} {X Y : World} (h : RTabs n₀ X) (hb : Below n₀ X Y) : RTabs n₀ Y := ⟨h.1.below hb, h.2.below hb⟩
theorem RTabs.mono {n₀ n₁ : Nat} {X : World} (h : RTabs n₀ X) (hn : n₀ ≤ n₁) : RTabs n₁ X := ⟨h.1.mono hn, h.2.mono hn⟩
theorem RTabs.grown {R : Nat} {X Y : World} (h : RTabs R X) (hg : X.grownBy Y (some R)) (hR : R ≤ X.heap.size) : RTabs R Y := h.below (below_of_grown hg hR)

set_option maxHeartbeats 1000000 in
theorem marked_any (kind : Int) {w : World} {n₀ R : Nat} {raw r : List Int} {c : Int} (h : At n₀ w R raw (c :: r)) :
    Calls Tryd.prog 40 #[.pointer (some ⟨R, 0, none⟩), .int .i64 kind] w fun e w' => e = .returned (tkV ⟨kind, (name r).1, 0, false, 0⟩) ∧ At n₀ w' R raw (name r).2 ∧ w.grownBy w' (some R) := by
  have hR := h.lt
  have t0 := Five.new w (.int .i64 0) (.string ⟨#[]⟩) (.int .i64 0) (.bool false) (.int .i64 0)
  have g0 : w.grownBy (w.alloc (.cells #[.int .i64 0, .string ⟨#[]⟩, .int .i64 0, .bool false, .int .i64 0] 27)) none := World.grownBy_alloc _ _ _
  have h0 := h.kept g0
  clear h
  go_enter Tryd.func40, Tryd.ntmps40
  go_upto_region 1 with fail
  generalize w.alloc (.cells #[.int .i64 0, .string ⟨#[]⟩, .int .i64 0, .bool false, .int .i64 0] 27) = w0 at *
  obtain ⟨a, c1, f1, ha, _, ⟨k1, _⟩, _⟩ := h0.open' (by simp)
  replace k1 : At n₀ _ R raw r := k1
  have g1 := (grown_but g0 (some R)).trans (grown_set1 w0 R (.int .i64 ((a : Int) + 1)))
  have t1 := t0.kept (grown_set1 w0 R (.int .i64 ((a : Int) + 1))) (by simp; omega)
  have h2 := name_any k1
  go_wp2_with fail
  generalize w0.setCell ⟨R, 1, none⟩ (.int .i64 ((a : Int) + 1)) = w1 at *
  refine h2.mono ?_
  clear h2 c1 f1
  rintro e w2 ⟨rfl, k2, g2⟩
  have t2 := t1.kept g2 (by simp; omega)
  obtain ⟨c0, c1, c2, c3, c4⟩ := t2.cells
  obtain ⟨f0, f1, f2, f3, f4⟩ := t2.free
  go_wp2
  refine bodyPost_ret ((t2.set _ _ _ _ _).ret rfl _ rfl) rfl ?_
  exact ⟨rfl, k2.kept_other (grown_setAll _ _ _ _ _ _ _) hR, grown_out (g1.trans g2) (Nat.le_refl _) (grown_setAll _ _ _ _ _ _ _)⟩

set_option maxHeartbeats 1000000 in
theorem named_any {w : World} {n₀ R : Nat} {raw l : List Int} (h : At n₀ w R raw l) :
    Calls Tryd.prog 44 #[.pointer (some ⟨R, 0, none⟩)] w fun e w' => ∃ k l', (if see (name l).2 0 = 40 then ((⟨20, (name l).1, 0, false, 0⟩ : Tk), (name l).2.tail) else (⟨1, (name l).1, 0, false, 0⟩, (name l).2)) = (k, l') ∧ e = .returned (tkV k) ∧ At n₀ w' R raw l' ∧ w.grownBy w' (some R) := by
  have hR := h.lt
  have t0 := Five.new w (.int .i64 0) (.string ⟨#[]⟩) (.int .i64 0) (.bool false) (.int .i64 0)
  have g0 : w.grownBy (w.alloc (.cells #[.int .i64 0, .string ⟨#[]⟩, .int .i64 0, .bool false, .int .i64 0] 27)) none := World.grownBy_alloc _ _ _
  have h0 := name_any (h.kept g0)
  clear h
  generalize (name l).1 = t at *
  generalize (name l).2 = l2 at *
  by_cases hc : see l2 0 = 40
  · rw [if_pos hc]
    have hne : l2 ≠ [] := fun e => by rw [e] at hc; revert hc; decide
    have h1 := fun w1 (k : At n₀ w1 R raw l2) => ahead_any 0 (by omega) k
    rw [hc] at h1
    clear hc
    go_enter Tryd.func44, Tryd.ntmps44
    go_wp2_with fail
    refine h0.mono ?_
    clear h0
    rintro e w1 ⟨rfl, k1, g1⟩
    replace t0 := t0.kept g1 (by simp; omega)
    replace g1 := (grown_but g0 (some R)).trans g1
    go_wp2_with fail
    refine (h1 _ k1).mono ?_
    rintro e w2 ⟨rfl, g2⟩
    have t2 := t0.kept g2 (by simp)
    obtain ⟨a, d1, e1, ha, _, ⟨k3, _⟩, _⟩ := (k1.kept g2).open' hne
    have g3 := grown_set1 w2 R (.int .i64 ((a : Int) + 1))
    have t3 := t2.kept g3 (by simp; omega)
    clear t2 t0 g0
    go_upto_region 5 with fail
    generalize w2.setCell ⟨R, 1, none⟩ (.int .i64 ((a : Int) + 1)) = w3 at *
    clear d1 e1
    obtain ⟨c0, c1, c2, c3, c4⟩ := t3.cells
    obtain ⟨f0, f1, f2, f3, f4⟩ := t3.free
    go_wp2
    refine bodyPost_ret ((t3.set _ _ _ _ _).ret rfl _ rfl) rfl ?_
    exact ⟨_, _, rfl, rfl, k3.kept_other (grown_setAll _ _ _ _ _ _ _) hR, grown_out ((g1.trans (grown_but g2 _)).trans g3) (Nat.le_refl _) (grown_setAll _ _ _ _ _ _ _)⟩
  · rw [if_neg hc]
    have h1 := fun w1 (k : At n₀ w1 R raw l2) => ahead_any 0 (by omega) k
    generalize see l2 0 = c at *
    have hc' : (c != 40) = true := by simpa using hc
    go_enter Tryd.func44, Tryd.ntmps44
    go_wp2_with fail
    refine h0.mono ?_
    clear h0
    rintro e w1 ⟨rfl, k1, g1⟩
    replace t0 := t0.kept g1 (by simp; omega)
    replace g1 := (grown_but g0 (some R)).trans g1
    go_wp2_with fail
    refine (h1 _ k1).mono ?_
    rintro e w2 ⟨rfl, g2⟩
    have t2 := t0.kept g2 (by simp)
    clear t0 g0
    obtain ⟨c0, c1, c2, c3, c4⟩ := t2.cells
    obtain ⟨f0, f1, f2, f3, f4⟩ := t2.free
    go_wp2
    refine bodyPost_ret ((t2.set _ _ _ _ _).ret rfl _ rfl) rfl ?_
    exact ⟨_, _, rfl, rfl, (k1.kept g2).kept_other (grown_setAll _ _ _ _ _ _ _) hR, grown_out (g1.trans (grown_but g2 _)) (Nat.le_refl _) (grown_setAll _ _ _ _ _ _ _)⟩

set_option maxHeartbeats 1000000 in
theorem single_any {w : World} {n₀ R : Nat} {raw r : List Int} {c : Int} (h : At n₀ w R raw (c :: r)) (hT : SignsAt R w) :
    Calls Tryd.prog 45 #[.pointer (some ⟨R, 0, none⟩)] w fun e w' => e = .returned (tkV (if 0 < sign c then ⟨sign c, [], 0, false, 0⟩ else ⟨10, [], 0, false, c⟩)) ∧ At n₀ w' R raw r ∧ w.grownBy w' (some R) := by
  have hR := h.lt
  have t0 := Five.new w (.int .i64 0) (.string ⟨#[]⟩) (.int .i64 0) (.bool false) (.int .i64 0)
  have g0 : w.grownBy (w.alloc (.cells #[.int .i64 0, .string ⟨#[]⟩, .int .i64 0, .bool false, .int .i64 0] 27)) none := World.grownBy_alloc _ _ _
  have h0 := take_any (h.kept g0)
  clear h
  have h1 := fun w1 (hs : SignsAt w1.heap.size w1) => kindOf_any c w1 hs
  by_cases hs : 0 < sign c
  · rw [if_pos hs]
    simp only [hs, decide_true] at h1
    clear hs
    generalize sign c = k at *
    go_enter Tryd.func45, Tryd.ntmps45
    go_wp2_with fail
    refine h0.mono ?_
    clear h0
    rintro e w1 ⟨rfl, k1, g1⟩
    replace t0 := t0.kept g1 (by simp; omega)
    replace g1 := (grown_but g0 (some R)).trans g1
    go_wp2_with fail
    refine (h1 _ ((hT.below (below_of_grown g1 (Nat.le_of_lt hR))).mono (Nat.le_of_lt k1.lt))).mono ?_
    rintro e w2 ⟨rfl, b2⟩
    have g2 := grown_of_below b2 none
    have t2 := t0.kept g2 (by simp)
    clear t0 g0
    obtain ⟨c0, c1, c2, c3, c4⟩ := t2.cells
    obtain ⟨f0, f1, f2, f3, f4⟩ := t2.free
    go_wp2
    refine bodyPost_ret ((t2.set _ _ _ _ _).ret rfl _ rfl) rfl ?_
    exact ⟨rfl, (k1.kept g2).kept_other (grown_setAll _ _ _ _ _ _ _) hR, grown_out (g1.trans (grown_but g2 _)) (Nat.le_refl _) (grown_setAll _ _ _ _ _ _ _)⟩
  · rw [if_neg hs]
    simp only [hs, decide_false] at h1
    clear hs
    generalize sign c = k at *
    go_enter Tryd.func45, Tryd.ntmps45
    go_wp2_with fail
    refine h0.mono ?_
    clear h0
    rintro e w1 ⟨rfl, k1, g1⟩
    replace t0 := t0.kept g1 (by simp; omega)
    replace g1 := (grown_but g0 (some R)).trans g1
    go_wp2_with fail
    refine (h1 _ ((hT.below (below_of_grown g1 (Nat.le_of_lt hR))).mono (Nat.le_of_lt k1.lt))).mono ?_
    rintro e w2 ⟨rfl, b2⟩
    have g2 := grown_of_below b2 none
    have t2 := t0.kept g2 (by simp)
    clear t0 g0
    obtain ⟨c0, c1, c2, c3, c4⟩ := t2.cells
    obtain ⟨f0, f1, f2, f3, f4⟩ := t2.free
    go_wp2
    refine bodyPost_ret ((t2.set _ _ _ _ _).ret rfl _ rfl) rfl ?_
    exact ⟨rfl, (k1.kept g2).kept_other (grown_setAll _ _ _ _ _ _ _) hR, grown_out (g1.trans (grown_but g2 _)) (Nat.le_refl _) (grown_setAll _ _ _ _ _ _ _)⟩

set_option maxHeartbeats 2000000 in
theorem number_any {w : World} {n₀ R : Nat} {raw l : List Int} (h : At n₀ w R raw l) (hb : begNum l = true) (hT : Nm.Tabs R w) :
    Calls Tryd.prog 42 #[.pointer (some ⟨R, 0, none⟩)] w fun e w' => ∃ k l', numeric nvOf l = (k, l') ∧ e = .returned (tkV k) ∧ At n₀ w' R raw l' ∧ w.grownBy w' (some R) := by
  have hR := h.lt
  have t0 := Five.new w (.int .i64 0) (.string ⟨#[]⟩) (.int .i64 0) (.bool false) (.int .i64 0)
  have g0 : w.grownBy (w.alloc (.cells #[.int .i64 0, .string ⟨#[]⟩, .int .i64 0, .bool false, .int .i64 0] 27)) none := World.grownBy_alloc _ _ _
  have h0 := amount_any (h.kept g0) hb (hT.below (below_of_still g0 R (Nat.le_of_lt hR) (row := none) rfl))
  have hnum : Hid (numeric nvOf l = if begName (numText l).2.1 then (⟨8, (name (numText l).2.1).1, nvOf (numText l).1, false, 0⟩, (name (numText l).2.1).2) else if see (numText l).2.1 0 = 37 then (⟨7, [], nvOf (numText l).1, false, 0⟩, (numText l).2.1.tail) else (⟨6, [], nvOf (numText l).1, (numText l).2.2, 0⟩, (numText l).2.1)) := rfl
  clear h
  generalize nvOf (numText l).1 = n at *
  generalize (numText l).2.2 = wh at *
  generalize (numText l).2.1 = l2 at *
  have h1 : ∀ w1 (k : At n₀ w1 R raw l2), Calls Tryd.prog 43 #[.pointer (some ⟨R, 0, none⟩), .int .i64 0] w1 fun e w' => e = .returned (.bool (begName l2)) ∧ w1.grownBy w' none := fun w1 k => nameBegins_any 0 (by omega) k
  cases hbn : begName l2 with
  | true =>
    have HN : Hid (numeric nvOf l = (⟨8, (name l2).1, n, false, 0⟩, (name l2).2)) := by show _ = _; rw [show numeric nvOf l = _ from hnum, hbn]; rfl
    rw [hbn] at h1
    clear hnum hbn
    go_enter Tryd.func42, Tryd.ntmps42
    go_wp2_with fail
    refine h0.mono ?_
    clear h0
    rintro e w1 ⟨rfl, k1, g1⟩
    replace t0 := t0.kept g1 (by simp; omega)
    replace g1 := (grown_but g0 (some R)).trans g1
    go_wp2_with fail
    refine (h1 _ k1).mono ?_
    rintro e w2 ⟨rfl, g2⟩
    have h3 := name_any (k1.kept g2)
    go_wp2_with fail
    refine h3.mono ?_
    rintro e w3 ⟨rfl, k3, g3⟩
    have t3 := (t0.kept g2 (by simp)).kept g3 (by simp; omega)
    clear t0 g0 h3
    obtain ⟨c0, c1, c2, c3, c4⟩ := t3.cells
    obtain ⟨f0, f1, f2, f3, f4⟩ := t3.free
    go_wp2
    refine bodyPost_ret ((t3.set _ _ _ _ _).ret rfl _ rfl) rfl ?_
    exact ⟨_, _, HN, rfl, k3.kept_other (grown_setAll _ _ _ _ _ _ _) hR, grown_out ((g1.trans (grown_but g2 _)).trans g3) (Nat.le_refl _) (grown_setAll _ _ _ _ _ _ _)⟩
  | false =>
    rw [hbn] at h1
    have h2 := fun w1 (k : At n₀ w1 R raw l2) => ahead_any 0 (by omega) k
    by_cases hc : see l2 0 = 37
    · have HN : Hid (numeric nvOf l = (⟨7, [], n, false, 0⟩, l2.tail)) := by show _ = _; rw [show numeric nvOf l = _ from hnum, hbn, if_neg (by decide), if_pos hc]
      have hne : l2 ≠ [] := fun e => by rw [e] at hc; revert hc; decide
      rw [hc] at h2
      clear hnum hbn hc
      go_enter Tryd.func42, Tryd.ntmps42
      go_wp2_with fail
      refine h0.mono ?_
      clear h0
      rintro e w1 ⟨rfl, k1, g1⟩
      replace t0 := t0.kept g1 (by simp; omega)
      replace g1 := (grown_but g0 (some R)).trans g1
      go_wp2_with fail
      refine (h1 _ k1).mono ?_
      rintro e w2 ⟨rfl, g2⟩
      go_wp2_with fail
      refine (h2 _ (k1.kept g2)).mono ?_
      rintro e w3 ⟨rfl, g3⟩
      have g23 := g2.trans g3
      obtain ⟨a, d1, e1, ha, _, ⟨k4, _⟩, _⟩ := (k1.kept g23).open' hne
      have g4 := grown_set1 w3 R (.int .i64 ((a : Int) + 1))
      have t4 := (t0.kept g23 (by simp)).kept g4 (by simp; omega)
      clear t0 g0 g2 g3
      go_upto_region 6 with fail
      generalize w3.setCell ⟨R, 1, none⟩ (.int .i64 ((a : Int) + 1)) = w4 at *
      clear d1 e1
      obtain ⟨c0, c1, c2, c3, c4⟩ := t4.cells
      obtain ⟨f0, f1, f2, f3, f4⟩ := t4.free
      go_wp2
      refine bodyPost_ret ((t4.set _ _ _ _ _).ret rfl _ rfl) rfl ?_
      exact ⟨_, _, HN, rfl, k4.kept_other (grown_setAll _ _ _ _ _ _ _) hR, grown_out ((g1.trans (grown_but g23 _)).trans g4) (Nat.le_refl _) (grown_setAll _ _ _ _ _ _ _)⟩
    · have HN : Hid (numeric nvOf l = (⟨6, [], n, wh, 0⟩, l2)) := by show _ = _; rw [show numeric nvOf l = _ from hnum, hbn, if_neg (by decide), if_neg hc]
      clear hnum hbn
      generalize see l2 0 = c at *
      have hc' : (c == 37) = false := by simpa using hc
      go_enter Tryd.func42, Tryd.ntmps42
      go_wp2_with fail
      refine h0.mono ?_
      clear h0
      rintro e w1 ⟨rfl, k1, g1⟩
      replace t0 := t0.kept g1 (by simp; omega)
      replace g1 := (grown_but g0 (some R)).trans g1
      go_wp2_with fail
      refine (h1 _ k1).mono ?_
      rintro e w2 ⟨rfl, g2⟩
      go_wp2_with fail
      refine (h2 _ (k1.kept g2)).mono ?_
      rintro e w3 ⟨rfl, g3⟩
      have g23 := g2.trans g3
      have t4 := t0.kept g23 (by simp)
      clear t0 g0 g2 g3
      obtain ⟨c0, c1, c2, c3, c4⟩ := t4.cells
      obtain ⟨f0, f1, f2, f3, f4⟩ := t4.free
      go_wp2
      refine bodyPost_ret ((t4.set _ _ _ _ _).ret rfl _ rfl) rfl ?_
      exact ⟨_, _, HN, rfl, (k1.kept g23).kept_other (grown_setAll _ _ _ _ _ _ _) hR, grown_out (g1.trans (grown_but g23 _)) (Nat.le_refl _) (grown_setAll _ _ _ _ _ _ _)⟩

end Go.Proofs.YtlgfmncflnipgaaDoor
