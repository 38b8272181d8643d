/- package tok's reader: strings. -/
import Derived.Test.YtlgfmncflnipgaaDoorTkName
namespace Go.Proofs.YtlgfmncflnipgaaDoor
open Go Go.RowKit Go.Shelf

/-- A token in memory. -/
def tkV (t : Tk) : Value := .agg #[.int .i64 t.kind, .string (txtOf t.text), .int .i64 t.n, .bool t.whole, .int .i64 t.c]
/-- The token of what stands in a string. -/
def strTk (o : Option (List Int)) : Tk := match o with
  | some t => ⟨4, t, 0, false, 0⟩
  | none => ⟨5, [], 0, false, 0⟩
theorem At.mem {W : World} {n₀ R : Nat} {raw l : List Int} (h : At n₀ W R raw l) {c : Int} (hc : c ∈ l) : 0 ≤ c := by
  obtain ⟨v, a, hr, rfl⟩ := h
  obtain ⟨x, _, rfl⟩ := List.mem_map.1 (List.mem_of_mem_drop hc)
  exact (fixC_right x).1
theorem escAt_cons (c d : Int) (r : List Int) : escAt (c :: d :: r) = (c == 92 && decide (0 ≤ d) && d != 10) := by
  unfold escAt
  rw [see_zero, see_succ, see_zero]

set_option maxRecDepth 100000 in
set_option maxHeartbeats 4000000 in
theorem quoted_any {w : World} {n₀ R : Nat} {raw r : List Int} {q : Int} (h : At n₀ w R raw (q :: r)) (hq : q = 34 ∨ q = 39) :
    Calls Tryd.prog 37 #[.pointer (some ⟨R, 0, none⟩)] w fun e w' => e = .returned (tkV (strTk (str q r).1)) ∧ At n₀ w' R raw (str q r).2 ∧ w.grownBy w' (some R) := by
  obtain ⟨i0, hi, hz0, hz1, hz2⟩ := info_parts infoInt'
  have hR := h.lt
  have hlen := h.len
  rw [List.length_cons] at hlen
  have t0 := Five.new w (.int .i64 0) (.string ⟨#[]⟩) (.int .i64 0) (.bool false) (.int .i64 0)
  have g0 : w.grownBy (w.alloc (.cells #[.int .i64 0, .string ⟨#[]⟩, .int .i64 0, .bool false, .int .i64 0] 27)) none := World.grownBy_alloc _ _ _
  have h0 := take_any (h.kept g0)
  clear h
  go_enter Tryd.func37, Tryd.ntmps37
  go_wp2_with fail
  refine h0.mono ?_
  clear h0
  rintro e w1 ⟨rfl, k1, g1⟩
  replace t0 := t0.kept g1 (by simp; omega)
  replace g1 := (grown_but g0 (some R)).trans g1
  have hw1 : w.heap.size + 1 ≤ w1.heap.size := t0.lt
  clear g0
  go_wp2
  go_loopw [4] (fun o wr => ∃ t l' : List Int, wr.ownsRow (w.heap.size + 1) 3 1 o t.length (t.map (Value.int .i64)) ∧ At n₀ wr R raw l' ∧ str q r = ((str q l').1.map (t ++ ·), (str q l').2) ∧ t.length + l'.length ≤ r.length ∧ w.grownBy wr (some R) ∧ w.heap.size + 1 ≤ wr.heap.size ∧ Five wr w.heap.size (.int .i64 0) (.string ⟨#[]⟩) (.int .i64 0) (.bool false) (.int .i64 0)) (fun _ wr => lenOf raw wr R)
  case atStart => exact ⟨[], r, World.ownsRow_nil _ _ _ _, k1, by simp, by simp, g1, hw1, t0⟩
  case round =>
    clear k1 g1 hw1 t0
    obtain ⟨t, l', hown, h', e', hl', g', hw', t'⟩ := hrel
    have hm := h'.lenOf
    have h1 := ahead_any 0 (by omega) h'
    have h2 := fun w1 (g : wr.grownBy w1 none) => ahead_any 0 (by omega) (h'.kept g)
    have h3 : ∀ w1 (g : wr.grownBy w1 none), Calls Tryd.prog 39 #[.pointer (some ⟨R, 0, none⟩), .int .i64 0] w1 fun e w' => e = .returned (.bool (escAt l')) ∧ w1.grownBy w' none := fun w1 g => escapes_any 0 (by omega) (h'.kept g)
    cases l' with
    | nil =>
      have HE : Hid (str q r = (some t, [])) := by show _ = _; rw [e', str_nil]; simp
      rw [see_nil] at h1
      simp only [see_nil] at h2
      have hq1 : ((-1 : Int) == q) = false := by simp; omega
      clear e' h3
      go_wp2_with fail
      refine h1.mono ?_
      rintro e w1 ⟨rfl, g1⟩
      go_wp2_with fail
      refine (h2 _ g1).mono ?_
      rintro e w2 ⟨rfl, g2⟩
      have g12 := g1.trans g2
      go_wp2_with fail
      refine (h2 _ g12).mono ?_
      rintro e w3 ⟨rfl, g3⟩
      have g13 := g12.trans g3
      have hown3 := owns_far hown (grown_but g13 (some R)) (by omega)
      have h4 := encoded_any _ t w3 (IntsAt.of_owns hown3 rfl) (by omega)
      go_wp2_with fail
      refine h4.mono ?_
      clear h4
      rintro e w4 ⟨rfl, b4⟩
      have g14 := g13.trans (grown_of_below b4 none)
      have t4 := t'.kept g14 (by simp)
      obtain ⟨c0, c1, c2, c3, c4⟩ := t4.cells
      obtain ⟨f0, f1, f2, f3, f4⟩ := t4.free
      go_wp2
      refine bodyPost_ret ((t4.set _ _ _ _ _).ret rfl _ rfl) rfl ?_
      rw [show str q r = _ from HE]
      exact ⟨rfl, (h'.kept g14).kept_other (grown_setAll _ _ _ _ _ _ _) hR, grown_out (g'.trans (grown_but g14 _)) (Nat.le_refl _) (grown_setAll _ _ _ _ _ _ _)⟩
    | cons c r' =>
      rw [see_zero] at h1
      simp only [see_zero] at h2
      have hc0 : 0 ≤ c := h'.mem (List.mem_cons_self ..)
      rw [List.length_cons] at hl'
      by_cases hcq : c = q
      · subst hcq
        have HE : Hid (str c r = (some t, r')) := by show _ = _; rw [e', str_cons, if_pos rfl]; simp
        clear e' h3
        go_wp2_with fail
        refine h1.mono ?_
        rintro e w1 ⟨rfl, g1⟩
        go_wp2_with fail
        refine (h2 _ g1).mono ?_
        rintro e w2 ⟨rfl, g2⟩
        have g12 := g1.trans g2
        obtain ⟨a, c1, f1, ha, _, ⟨k3, _⟩, _⟩ := (h'.kept g12).open' (by simp)
        replace k3 : At n₀ _ R raw r' := k3
        have g3 := grown_set1 w2 R (.int .i64 ((a : Int) + 1))
        have g13 := (grown_but g12 (some R)).trans g3
        have hown3 := owns_far hown g13 (by omega)
        have h4 := encoded_any _ t _ (IntsAt.of_owns hown3 rfl) (by omega)
        have t3 := t'.kept g13 (by simp; omega)
        go_wp2_with fail
        generalize w2.setCell ⟨R, 1, none⟩ (.int .i64 ((a : Int) + 1)) = w3 at *
        clear c1 f1
        refine h4.mono ?_
        clear h4
        rintro e w4 ⟨rfl, b4⟩
        have g4 := grown_of_below b4 none
        have t4 := t3.kept g4 (by simp)
        obtain ⟨c0, c1, c2, c3, c4⟩ := t4.cells
        obtain ⟨f0, f1, f2, f3, f4⟩ := t4.free
        go_wp2
        refine bodyPost_ret ((t4.set _ _ _ _ _).ret rfl _ rfl) rfl ?_
        rw [show str c r = _ from HE]
        exact ⟨rfl, (k3.kept g4).kept_other (grown_setAll _ _ _ _ _ _ _) hR, grown_out ((g'.trans g13).trans (grown_but g4 _)) (Nat.le_refl _) (grown_setAll _ _ _ _ _ _ _)⟩
      · have hcq' : (c == q) = false := by simpa using hcq
        have hc1 : (c == -1) = false := by simp; omega
        have hn1 : (c != q) = true := by simpa using hcq
        have hn2 : (c != -1) = true := by simp; omega
        by_cases h10 : c = 10
        · subst h10
          have HE : Hid (str q r = (none, 10 :: r')) := by show _ = _; rw [e', str_cons, if_neg hcq, if_pos rfl]; rfl
          clear e' h3 hcq hn2
          go_wp2_with fail
          refine h1.mono ?_
          rintro e w1 ⟨rfl, g1⟩
          go_wp2_with fail
          refine (h2 _ g1).mono ?_
          rintro e w2 ⟨rfl, g2⟩
          have g12 := g1.trans g2
          go_wp2_with fail
          refine (h2 _ g12).mono ?_
          rintro e w3 ⟨rfl, g3⟩
          have g13 := g12.trans g3
          have t3 := t'.kept g13 (by simp)
          obtain ⟨c0, c1, c2, c3, c4⟩ := t3.cells
          obtain ⟨f0, f1, f2, f3, f4⟩ := t3.free
          go_wp2
          refine bodyPost_ret ((t3.set _ _ _ _ _).ret rfl _ rfl) rfl ?_
          rw [show str q r = _ from HE]
          exact ⟨rfl, (h'.kept g13).kept_other (grown_setAll _ _ _ _ _ _ _) hR, grown_out (g'.trans (grown_but g13 _)) (Nat.le_refl _) (grown_setAll _ _ _ _ _ _ _)⟩
        · have h10' : (c == 10) = false := by simpa using h10
          cases he : escAt (c :: r') with
          | true =>
            obtain ⟨c', r'', e1, hr⟩ := escAt_parts he
            obtain ⟨rfl, rfl⟩ := List.cons.inj e1
            obtain ⟨d, r3, rfl⟩ := List.exists_cons_of_ne_nil hr
            have h92 : c = 92 ∧ 0 ≤ d ∧ d ≠ 10 := by
              rw [escAt_cons] at he
              simpa [and_assoc] using he
            have hsl := escd_len c (d :: r3)
            have hdr : (d :: r3).length = r3.length + 1 := rfl
            have e2 : str q r = ((str q (escd (c :: d :: r3)).2).1.map ((t ++ [(escd (c :: d :: r3)).1]) ++ ·), (str q (escd (c :: d :: r3)).2).2) := by
              rw [e', str_cons, if_neg hcq, if_neg h10, if_pos h92.1, if_neg (by simp), if_neg (by rw [see_zero]; exact h92.2.2)]
              simp [Option.map_map, Function.comp_def]
            rw [he] at h3
            have h4 := fun w1 (g : wr.grownBy w1 none) => escape_any (h'.kept g) hr
            generalize (escd (c :: d :: r3)).1 = y at *
            generalize (escd (c :: d :: r3)).2 = r2 at *
            clear e' he h92 e1
            go_wp2_with fail
            refine h1.mono ?_
            rintro e w1 ⟨rfl, g1⟩
            go_wp2_with fail
            refine (h2 _ g1).mono ?_
            rintro e w2 ⟨rfl, g2⟩
            have g12 := g1.trans g2
            go_wp2_with fail
            refine (h2 _ g12).mono ?_
            rintro e w3 ⟨rfl, g3⟩
            have g13 := g12.trans g3
            go_wp2_with fail
            refine (h3 _ g13).mono ?_
            rintro e w4 ⟨rfl, g4⟩
            have g14 := g13.trans g4
            go_wp2_with fail
            refine (h4 _ g14).mono ?_
            clear h4
            rintro e w5 ⟨rfl, k5, g5⟩
            have g15 := (grown_but g14 (some R)).trans g5
            have hown2 := owns_far hown g15 (by omega)
            have t5 := t'.kept g15 (by simp; omega)
            have hs2 := g15.size
            clear hown
            go_wp2_with (at_builtin; refine wpList_append_own _ rfl _ _ 31 rfl (w.heap.size + 1) 3 i0 (.int .i64 0) 1 8 Tryd.underlying31 hi hz0 hz1 hz2 rfl (by decide) _ _ _ rfl (hown2.alloc _) ⟨w5.heap.size, 0, none⟩ 1 1 [.int .i64 y] rfl rfl (cells_new _ [.int .i64 y] _) (fun x hx => by simp at hx; subst hx; rfl) (by unfold maxLen; omega) (by omega) (by simp; omega) ?_; intro v' w6 hown6 hgrow6 hnil6)
            have far : ∀ j, (_ : Value).ownBlock = some j → w.heap.size < j := fun j e => by have := (hown2.lt j e).1; omega
            have k6 := (k5.kept (World.grownBy_alloc w5 _ none)).kept_far hgrow6 (fun j e => by have := far j e; omega)
            have t6 := (t5.kept (World.grownBy_alloc w5 _ none) (by simp)).kept hgrow6 (fun e => by have := far _ e.symm; omega)
            have hm6 := k6.lenOf
            have g16 := ((g'.trans g15).trans (World.grownBy_alloc w5 _ _)).andThen hgrow6 (fun j e => .inl (Nat.le_of_lt (far j e)))
            refine ⟨⟨t ++ [y], r2, by simpa using hown6, k6, e2, by simp only [List.length_append, List.length_cons, List.length_nil]; omega, g16, t6.lt, t6⟩, by rw [hm, hm6]; simp only [List.length_cons]; omega⟩
          | false =>
            rw [he] at h3
            by_cases h92 : c = 92
            · subst h92
              have hr0 : see r' 0 = -1 ∧ r' = [] ∨ see r' 0 = 10 ∧ r' ≠ [] := by
                cases r' with
                | nil => exact .inl ⟨rfl, rfl⟩
                | cons d r3 =>
                  rw [escAt_cons] at he
                  have hd0 : 0 ≤ d := h'.mem (List.mem_cons_of_mem _ (List.mem_cons_self ..))
                  refine .inr ⟨?_, by simp⟩
                  rw [see_zero]
                  simpa [hd0] using he
              have e2 : str q r = ((str q (if see r' 0 = 10 then r'.tail else r')).1.map (t ++ ·), (str q (if see r' 0 = 10 then r'.tail else r')).2) := by
                rw [e', str_cons, if_neg hcq, if_neg h10, if_pos rfl]
                rcases hr0 with ⟨x1, rfl⟩ | ⟨x1, x2⟩
                · rfl
                · rw [if_neg x2, if_pos x1, if_pos x1]
              have hsl : (if see r' 0 = 10 then r'.tail else r').length ≤ r'.length := by
                split
                · exact tail_le_len r'
                · exact Nat.le_refl _
              have h4 := fun w1 (g : wr.grownBy w1 none) => passLineEnd_any (h'.kept g)
              generalize (if see r' 0 = 10 then r'.tail else r') = r2 at *
              clear e' he hcq h10 hr0
              go_wp2_with fail
              refine h1.mono ?_
              rintro e w1 ⟨rfl, g1⟩
              go_wp2_with fail
              refine (h2 _ g1).mono ?_
              rintro e w2 ⟨rfl, g2⟩
              have g12 := g1.trans g2
              go_wp2_with fail
              refine (h2 _ g12).mono ?_
              rintro e w3 ⟨rfl, g3⟩
              have g13 := g12.trans g3
              go_wp2_with fail
              refine (h3 _ g13).mono ?_
              rintro e w4 ⟨rfl, g4⟩
              have g14 := g13.trans g4
              go_wp2_with fail
              refine (h2 _ g14).mono ?_
              rintro e w5 ⟨rfl, g5⟩
              have g15 := g14.trans g5
              go_wp2_with fail
              refine (h4 _ g15).mono ?_
              clear h4
              rintro e w6 ⟨rfl, k6, g6⟩
              have g16 := (grown_but g15 (some R)).trans g6
              have hown2 := owns_far hown g16 (by omega)
              have t6 := t'.kept g16 (by simp; omega)
              have hm6 := k6.lenOf
              go_wp2
              refine ⟨⟨t, r2, hown2, k6, e2, by omega, g'.trans g16, t6.lt, t6⟩, by rw [hm, hm6]; simp; omega⟩
            · have h92' : (c == 92) = false := by simpa using h92
              have e2 : str q r = ((str q r').1.map ((t ++ [c]) ++ ·), (str q r').2) := by
                rw [e', str_cons, if_neg hcq, if_neg h10, if_neg h92]
                simp [Option.map_map, Function.comp_def]
              have h4 := fun w1 (g : wr.grownBy w1 none) => take_any (h'.kept g)
              clear e' he
              go_wp2_with fail
              refine h1.mono ?_
              rintro e w1 ⟨rfl, g1⟩
              go_wp2_with fail
              refine (h2 _ g1).mono ?_
              rintro e w2 ⟨rfl, g2⟩
              have g12 := g1.trans g2
              go_wp2_with fail
              refine (h2 _ g12).mono ?_
              rintro e w3 ⟨rfl, g3⟩
              have g13 := g12.trans g3
              go_wp2_with fail
              refine (h3 _ g13).mono ?_
              rintro e w4 ⟨rfl, g4⟩
              have g14 := g13.trans g4
              go_wp2_with fail
              refine (h2 _ g14).mono ?_
              rintro e w5 ⟨rfl, g5⟩
              have g15 := g14.trans g5
              go_wp2_with fail
              refine (h4 _ g15).mono ?_
              clear h4
              rintro e w6 ⟨rfl, k6, g6⟩
              have g16 := (grown_but g15 (some R)).trans g6
              have hown2 := owns_far hown g16 (by omega)
              have t6 := t'.kept g16 (by simp; omega)
              have hs2 := g16.size
              clear hown
              go_wp2_with (at_builtin; refine wpList_append_own _ rfl _ _ 31 rfl (w.heap.size + 1) 3 i0 (.int .i64 0) 1 8 Tryd.underlying31 hi hz0 hz1 hz2 rfl (by decide) _ _ _ rfl (hown2.alloc _) ⟨w6.heap.size, 0, none⟩ 1 1 [.int .i64 c] rfl rfl (cells_new _ [.int .i64 c] _) (fun x hx => by simp at hx; subst hx; rfl) (by unfold maxLen; omega) (by omega) (by simp; omega) ?_; intro v' w7 hown7 hgrow7 hnil7)
              have far : ∀ j, (_ : Value).ownBlock = some j → w.heap.size < j := fun j e => by have := (hown2.lt j e).1; omega
              have k7 := (k6.kept (World.grownBy_alloc w6 _ none)).kept_far hgrow7 (fun j e => by have := far j e; omega)
              have t7 := (t6.kept (World.grownBy_alloc w6 _ none) (by simp)).kept hgrow7 (fun e => by have := far _ e.symm; omega)
              have hm7 := k7.lenOf
              have g17 := ((g'.trans g16).trans (World.grownBy_alloc w6 _ _)).andThen hgrow7 (fun j e => .inl (Nat.le_of_lt (far j e)))
              refine ⟨⟨t ++ [c], r', by simpa using hown7, k7, e2, by simp; omega, g17, t7.lt, t7⟩, by rw [hm, hm7]; simp⟩

end Go.Proofs.YtlgfmncflnipgaaDoor
