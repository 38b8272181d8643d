/- The document's own Tokens, at every slice of code points that is not too long. -/
import Derived.Test.YtkhgmobependiaaDoorRtGd
namespace Go.Proofs.YtkhgmobependiaaDoor.Ref
open Go Go.RowKit Go.Shelf

set_option maxRecDepth 100000 in
set_option maxHeartbeats 8000000 in
theorem tokens_any (v0 : Value) (raw : List Int) (w : World) (hI : IntsAt w.heap.size w v0 raw) (hlen : raw.length ≤ 1000000) :
    Calls Tryd.prog 10 #[v0] w fun e w' => ∃ v', e = .returned v' ∧ w'.ownsRow w.heap.size 58 5 v' (toks nv (raw.map fixC)).length (btsCells ((toks nv (raw.map fixC)).map btOf)) ∧ Below w.heap.size w w' := by
  obtain ⟨i0, hi, hz0, hz1, hz2⟩ := info_parts infoTk
  obtain ⟨A, hA⟩ : ∃ A, toks nv (raw.map fixC) = A := ⟨_, rfl⟩
  have hall : A.length ≤ 1000000 := by
    have := toks_le nv (raw.map fixC)
    rw [List.length_map] at this
    rw [← hA]
    omega
  have hb1 : Below w.heap.size w (w.alloc (.cells #[v0, .int .i64 0] 55)) := (Below.refl _ w).alloc (Nat.le_refl _) _
  have hT0 : Ts w raw (.slice none 0 0) [] (raw.map fixC) (w.alloc (.cells #[v0, .int .i64 0] 55)) :=
    ⟨World.ownsRow_nil _ _ _ _, ⟨v0, 0, ⟨heap_alloc_new w _, hI.below hb1, Nat.le_refl _, by omega, hlen⟩, by simp⟩, hb1, by simp⟩
  obtain ⟨p, cap, rfl⟩ := hI.len
  rw [hA]
  go_enter Tryd.func10, Tryd.ntmps10
  go_wp2_with fail
  clear hI hb1
  generalize World.alloc w _ = w0 at *
  go_loopw [4] (fun o wr => ∃ v ts l, v = o ∧ Ts w raw v ts l wr ∧ ts ++ toks nv l = A ∧ ts.length ≤ 1000000) (fun _ wr => lenOf raw wr w.heap.size)
  case atStart => exact ⟨_, [], raw.map fixC, rfl, hT0, by simpa using hA, by simp⟩
  case round =>
    clear hT0 hA
    obtain ⟨v, ts, l, rfl, hT, e', hbound⟩ := hrel
    have X := wr
    obtain ⟨X, hX⟩ : ∃ X, X = wr := ⟨_, rfl⟩
    subst hX
    have hm := hT.at'.lenOf
    have g0 : X.grownBy X none := World.grownBy.refl _ _
    have s0 := see0 hT.at'
    have s1 := see1 hT.at'
    have nb := number_any hT.at'
    have b0 := beg0 hT.at'
    cases l with
    | cons c r =>
      have hc0 : 0 ≤ c := hT.at'.mem (List.mem_cons_self ..)
      have wh := white_any c
      rw [see_zero] at s0
      rw [see_succ] at s1
      go_wp2_with fail
      refine (s0 _ g0).mono ?_
      rintro e W1 ⟨rfl, g1⟩
      go_wp2_with fail
      refine (s0 _ g1).mono ?_
      rintro e W2 ⟨rfl, g2⟩
      go_wp2_with fail
      refine (nb _ g2).mono ?_
      rintro e W3 ⟨rfl, g3⟩
      go_wp2_with fail
      refine (b0 _ g3).mono ?_
      rintro e W4 ⟨rfl, g4⟩
      have hsl := step_len nv c r
      by_cases h47 : c = 47
      · subst h47
        go_wp2_with fail
        refine (s1 _ g4).mono ?_
        rintro e W5 ⟨rfl, g5⟩
        by_cases h42 : see r 0 = 42
        ·
          obtain ⟨d, r2, rfl⟩ : ∃ d r2, r = d :: r2 := List.exists_cons_of_ne_nil (fun e => by rw [e] at h42; exact absurd h42 (by decide))
          rw [see_zero] at h42
          subst h42
          rw [see_zero]
          have hs : step nv (47 :: 42 :: r2) = (none, skipC r2) := by unfold step; rw [if_pos ⟨rfl, rfl⟩]; rfl
          clear wh
          rw [hs] at hsl
          have e2 := fin_none hs e'
          clear e' hs
          go_upto_if 37 with fail
          refine wp_cond_true (by first | rfl | (simp; done) | (simp; assumption)) ?_
          refine arm_comment rfl (hT.kept g5) hbound ?_
          intros
          rename_i T'
          have hm' := T'.at'.lenOf
          go_wp2
          exact ⟨⟨_, _, _, rfl, T', e2, hbound⟩, by rw [hm, hm']; exact Nat.lt_succ_of_le hsl⟩
        ·
          rw [show isWhite 47 = false by decide] at wh
          have hx' : (see r 0 == 42) = false := by simpa using h42
          go_wp2_with fail
          refine (wh _).mono ?_
          rintro e W5 ⟨rfl, rfl⟩
          go_upto_if 98 with fail
          refine wp_cond_false (by first | rfl | (simp; done) | (simp; assumption)) ?_
          refine rest_any rfl (hT.kept g5) hbound (fun e => h42 e.2) (by decide) (by decide) ?_
          delta Hid
          intros
          rename_i hs T'
          have hm' := T'.at'.lenOf
          rw [hs] at hsl
          have e2 := fin_some hs e'
          clear e' hs
          go_wp2
          exact ⟨⟨_, _, _, rfl, T', e2, fin_len e2 hall⟩, by rw [hm, hm']; exact Nat.lt_succ_of_le hsl⟩
      have h47' : (c == 47) = false := by simpa using h47
      have h1 : ¬ (c = 47 ∧ see r 0 = 42) := fun e => h47 e.1
      clear h47
      go_wp2_with fail
      refine (wh _).mono ?_
      rintro e W4 ⟨rfl, rfl⟩
      by_cases hw : isWhite c = true
      ·
        have hs : step nv (c :: r) = (some ⟨9, [], 0, false, 0⟩, (c :: r).dropWhile isWhite) := by
          unfold step
          rw [see_zero, see_succ, if_neg h1, if_pos hw]
        rw [hw]
        clear h1 hw s1 s0 nb b0 wh
        rw [hs] at hsl
        have e2 := fin_some hs e'
        clear e' hs
        go_upto_if 81 with fail
        refine wp_cond_true (by first | rfl | (simp; done) | (simp; assumption)) ?_
        refine arm_white rfl (hT.kept g4) hbound ?_
        intros
        rename_i T'
        have hm' := T'.at'.lenOf
        go_wp2
        exact ⟨⟨_, _, _, rfl, T', e2, fin_len e2 hall⟩, by rw [hm, hm']; exact Nat.lt_succ_of_le hsl⟩
      have hwf : isWhite c = false := by simpa using hw
      rw [hwf]
      clear hw wh
      by_cases hq : c = 34 ∨ c = 39
      ·
        have hs : step nv (c :: r) = (some (strTk (str c r).1), (str c r).2) := by
          unfold step
          rw [see_zero, see_succ, if_neg h1, hwf, if_neg (by decide), if_pos hq]
          cases e : (str c r).1 <;> simp [strTk, e]
        clear h1 s1 hwf
        rcases hq with rfl | rfl
        ·
          rw [hs] at hsl
          have e2 := fin_some hs e'
          clear e' hs
          go_upto_if 98 with fail
          refine wp_cond_true (by first | rfl | (simp; done) | (simp; assumption)) ?_
          refine arm_str rfl (hT.kept g4) hbound ?_
          intros
          rename_i T'
          have hm' := T'.at'.lenOf
          go_wp2
          exact ⟨⟨_, _, _, rfl, T', e2, fin_len e2 hall⟩, by rw [hm, hm']; exact Nat.lt_succ_of_le hsl⟩
        ·
          rw [hs] at hsl
          have e2 := fin_some hs e'
          clear e' hs
          go_upto_if 98 with fail
          refine wp_cond_true (by first | rfl | (simp; done) | (simp; assumption)) ?_
          refine arm_str rfl (hT.kept g4) hbound ?_
          intros
          rename_i T'
          have hm' := T'.at'.lenOf
          go_wp2
          exact ⟨⟨_, _, _, rfl, T', e2, fin_len e2 hall⟩, by rw [hm, hm']; exact Nat.lt_succ_of_le hsl⟩
      have h34' : (c == 34) = false := by simp; omega
      have h39' : (c == 39) = false := by simp; omega
      go_upto_if 98 with fail
      refine wp_cond_false (by first | rfl | (simp; done) | (simp; assumption)) ?_
      refine rest_any rfl (hT.kept g4) hbound h1 hwf hq ?_
      delta Hid
      intros
      rename_i hs T'
      have hm' := T'.at'.lenOf
      rw [hs] at hsl
      have e2 := fin_some hs e'
      clear e' hs
      go_wp2
      exact ⟨⟨_, _, _, rfl, T', e2, fin_len e2 hall⟩, by rw [hm, hm']; exact Nat.lt_succ_of_le hsl⟩
    | nil =>
      rw [see_nil] at s0
      have e2 : ts = A := by rw [← e', toks_nil, List.append_nil]
      subst e2
      clear e' nb b0 s1
      go_wp2_with fail
      refine (s0 _ g0).mono ?_
      rintro e W1 ⟨rfl, g1⟩
      have T1 := hT.kept g1
      go_wp2
      go_ret
      exact ⟨_, rfl, owns_base T1.row (by omega), T1.below⟩

end Go.Proofs.YtkhgmobependiaaDoor.Ref
