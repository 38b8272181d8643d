/- For every two integers: the law tapestrierlaw1.TextOne returns true and leaves its arguments as they were; conditions: the library's two UTF-8 tables hold what its text lays (the card ties them to the program's text). -/
import Derived.Test.YtpbgefgoccmncaaDoorBack
import Derived.Test.YtpbgefgoccmncaaDoorOpen
namespace Go.Proofs.YtpbgefgoccmncaaDoor
open Go Go.ChangeShapes Go.WideShapes Go.ChangeAt Go.RowKit
open Go.ChangeMaps (open_string shut_string)
open Go.Lib (decodeN)

theorem dn_cont (n b0 b1 b2 b3 : Nat) (h1 : 128 ≤ b0) (h2 : b0 < 192) : decodeN n b0 b1 b2 b3 = (65533, 1) := by
  unfold decodeN
  repeat' split
  all_goals first | (exfalso; omega) | rfl
theorem ipts_conts : ∀ l : List UInt8, (∀ u ∈ l, 128 ≤ u.toNat ∧ u.toNat < 192) → ipts l = List.replicate l.length 65533
  | [], _ => rfl
  | u :: t, h => by
    have hu := h u (List.mem_cons_self ..)
    have hd : dec (u :: t) = (65533, 1) := by
      rw [dec_eq (by simp)]
      exact dn_cont _ _ _ _ _ hu.1 hu.2
    rw [ipts_cons (by simp), hd]
    simp only [List.drop_succ_cons, List.drop_zero]
    rw [ipts_conts t (fun x hx => h x (List.mem_cons_of_mem _ hx))]
    simp [List.replicate_succ]

/-- A lead byte whose followers are cut short. -/
theorem ipts_cut (u : UInt8) (t : List UInt8) (k n : Nat) (hk : k < n) (hn : n = t.length + 1) (hlead : ∀ m b1 b2 b3, m < n → decodeN m u.toNat b1 b2 b3 = (65533, 1)) (ht : ∀ x ∈ t, 128 ≤ x.toNat ∧ x.toNat < 192) :
    ipts ((u :: t).take k) = List.replicate k 65533 := by
  cases k with
  | zero => rfl
  | succ k =>
    have hd : dec ((u :: t).take (k + 1)) = (65533, 1) := by
      rw [dec_eq (by simp), List.length_take]
      exact hlead _ _ _ _ (by simp; omega)
    rw [ipts_cons (by simp), hd]
    simp only [List.take_succ_cons, List.drop_succ_cons, List.drop_zero]
    rw [ipts_conts (t.take k) (fun x hx => ht x (List.mem_of_mem_take hx)), List.length_take, Nat.min_eq_left (by omega)]
    simp [List.replicate_succ]

theorem IntsAt.const {n₀ : Nat} {X : World} {v : Value} {k : Nat} {z : Int} (h : IntsAt n₀ X v (List.replicate k z)) :
    ∃ p cap, v = .slice p k cap ∧ ∀ q, q < k → ∃ bk off, p = some ⟨bk, off, none⟩ ∧ X.cell? ⟨bk, off + q, none⟩ = some (.int .i64 z) := by
  rcases h.cases with ⟨h1, p, cap, rfl⟩ | ⟨bk, off, cap, rfl, _, _, _, hc⟩
  · have hk : k = 0 := by simpa using congrArg List.length h1
    subst hk
    exact ⟨p, cap, rfl, fun q hq => by omega⟩
  · exact ⟨_, cap, by rw [List.length_replicate], fun q hq => ⟨bk, off, rfl, hc q z (by rw [List.getElem?_replicate, if_pos hq])⟩⟩

theorem encs_one (c : Int) : encs [c] = enc1 c := by simp [encs]
theorem ipts_one {c : Int} (h : rightB c = true) : ipts (enc1 c) = [c] := by
  have := ipts_encs [c]
  rw [encs_one] at this
  rw [this]
  simp [fixC_yes h]

theorem enc_1 {c : Int} (h1 : 0 ≤ c) (h2 : c ≤ 127) (hr : rightB c = true) : ∃ u0 : UInt8, enc1 c = [u0] ∧ ∀ k, k < 1 → ipts ([u0].take k) = List.replicate k 65533 := by
  have hri := rightB_iff.1 hr
  obtain ⟨r, rfl⟩ := Int.eq_ofNat_of_zero_le hri.1
  unfold enc1 Lib.encodeRune
  rw [fixC_yes hr, Lib.encodeRuneZ_one (by omega) (by omega)]
  refine ⟨_, rfl, fun k hk => ?_⟩
  obtain rfl : k = 0 := by omega
  rfl

theorem enc_2 {c : Int} (h1 : 128 ≤ c) (h2 : c ≤ 2047) (hr : rightB c = true) : ∃ u0 u1 : UInt8, enc1 c = [u0, u1] ∧ ∀ k, k < 2 → ipts ([u0, u1].take k) = List.replicate k 65533 := by
  have hri := rightB_iff.1 hr
  obtain ⟨r, rfl⟩ := Int.eq_ofNat_of_zero_le hri.1
  unfold enc1 Lib.encodeRune
  rw [fixC_yes hr, Lib.encodeRuneZ_two (by omega) (by omega)]
  refine ⟨_, _, rfl, fun k hk => ?_⟩
  refine ipts_cut _ _ k 2 hk rfl (fun m b1 b2 b3 hm => ?_) (fun x hx => ?_)
  · rw [u8_toNat (n := 192 + r / 64) (by omega) (by omega)]
    exact dn2_short m _ b1 b2 b3 (by omega) (by omega) hm
  · simp only [List.mem_cons, List.not_mem_nil, or_false] at hx
    rcases hx with rfl
    · rw [u8_toNat (n := 128 + r % 64) (by omega) (by omega)]
      omega

theorem enc_3 {c : Int} (h1 : 2048 ≤ c) (h2 : c ≤ 65535) (hr : rightB c = true) : ∃ u0 u1 u2 : UInt8, enc1 c = [u0, u1, u2] ∧ ∀ k, k < 3 → ipts ([u0, u1, u2].take k) = List.replicate k 65533 := by
  have hri := rightB_iff.1 hr
  obtain ⟨r, rfl⟩ := Int.eq_ofNat_of_zero_le hri.1
  unfold enc1 Lib.encodeRune
  rw [fixC_yes hr, Lib.encodeRuneZ_three (by omega)]
  refine ⟨_, _, _, rfl, fun k hk => ?_⟩
  refine ipts_cut _ _ k 3 hk rfl (fun m b1 b2 b3 hm => ?_) (fun x hx => ?_)
  · rw [u8_toNat (n := 224 + r / 4096) (by omega) (by omega)]
    exact dn3_short m _ b1 b2 b3 (by omega) (by omega) hm
  · simp only [List.mem_cons, List.not_mem_nil, or_false] at hx
    rcases hx with rfl | rfl
    · rw [u8_toNat (n := 128 + r / 64 % 64) (by omega) (by omega)]
      omega
    · rw [u8_toNat (n := 128 + r % 64) (by omega) (by omega)]
      omega

theorem enc_4 {c : Int} (h1 : 65536 ≤ c) (h2 : c ≤ 1114111) (hr : rightB c = true) : ∃ u0 u1 u2 u3 : UInt8, enc1 c = [u0, u1, u2, u3] ∧ ∀ k, k < 4 → ipts ([u0, u1, u2, u3].take k) = List.replicate k 65533 := by
  have hri := rightB_iff.1 hr
  obtain ⟨r, rfl⟩ := Int.eq_ofNat_of_zero_le hri.1
  unfold enc1 Lib.encodeRune
  rw [fixC_yes hr, Lib.encodeRuneZ_four (by omega) (by omega)]
  refine ⟨_, _, _, _, rfl, fun k hk => ?_⟩
  refine ipts_cut _ _ k 4 hk rfl (fun m b1 b2 b3 hm => ?_) (fun x hx => ?_)
  · rw [u8_toNat (n := 240 + r / 262144) (by omega) (by omega)]
    exact dn4_short m _ b1 b2 b3 (by omega) (by omega) hm
  · simp only [List.mem_cons, List.not_mem_nil, or_false] at hx
    rcases hx with rfl | rfl | rfl
    · rw [u8_toNat (n := 128 + r / 4096 % 64) (by omega) (by omega)]
      omega
    · rw [u8_toNat (n := 128 + r / 64 % 64) (by omega) (by omega)]
      omega
    · rw [u8_toNat (n := 128 + r % 64) (by omega) (by omega)]
      omega

set_option maxRecDepth 100000 in
set_option maxHeartbeats 2000000 in
theorem one_1 (w : World) (hT : Tabs w.heap.size w) (c cut : Int) (h1 : 0 ≤ c) (h2 : c ≤ 127) (hr : rightB c = true) (hc : 0 ≤ cut) :
    Calls Tryd.prog 8 #[.int .i64 c, .int .i64 cut] w fun e w' => e = .returned (.bool true) ∧ Below w.heap.size w w' := by
  have h0 := alive_any w hT
  obtain ⟨u0, he, hcut⟩ := enc_1 h1 h2 hr
  have hone := ipts_one hr
  rw [he] at hone
  have hri := rightB_iff.1 hr
  have g1 : ¬ c < 0 := by omega
  have g2 : ¬ (1114111 : Int) < c := by omega
  have g3 : ¬ cut < 0 := by omega
  have t127 : ¬ (127 : Int) < c := by omega
  have t2047 : ¬ (2047 : Int) < c := by omega
  have t65535 : ¬ (65535 : Int) < c := by omega
  have hs : (decide (55296 ≤ c) && decide (c ≤ 57343)) = false := by
    rw [Bool.and_eq_false_iff]
    rcases hri.2.2 with h | h
    · exact .inl (decide_eq_false (by omega))
    · exact .inr (decide_eq_false (by omega))
  have step : ∀ {x y : World}, Below w.heap.size w x → Below x.heap.size x y → Below w.heap.size w y := fun a b => a.trans (b.mono a.size)
  clear hri
  rcases (show c < 55296 ∨ 57343 < c from (rightB_iff.1 hr).2.2) with hside | hside
  · have s1 : ¬ (55296 : Int) ≤ c := by omega
    clear hs
    go_enter Tryd.func8, Tryd.ntmps8
    go_wp2_with fail
    refine h0.mono ?_
    rintro e w1 ⟨rfl, b1⟩
    clear h0
    have T1 := (hT.below b1).mono b1.size
    have bB : Below w1.heap.size w1 (w1.alloc (.cells #[.int .i64 c] 3)) := (Below.refl _ w1).alloc (Nat.le_refl _) _
    have I1 : IntsAt (w1.alloc (.cells #[.int .i64 c] 3)).heap.size (w1.alloc (.cells #[.int .i64 c] 3)) (.slice (some ⟨w1.heap.size, 0, none⟩) 1 1) [c] :=
      .inr ⟨w1.heap.size, 0, 1, rfl, Nat.le_refl _, by unfold maxLen; omega, by simp, fun j u hj => by
        rw [cell_of_block (World.alloc_heap_new w1 _)]
        match j, hj with
        | 0, hj => cases hj; rfl
        | j + 1, hj => simp at hj⟩
    have c1 := bytes_any _ [c] _ I1 (by simp)
    rw [encs_one, he] at c1
    have T1' := (T1.below bB).mono bB.size
    go_wp2_with fail
    refine c1.mono ?_
    clear c1 I1
    rintro e w2 ⟨v2, rfl, r2, b2⟩
    have B12 := step (step b1 bB) b2
    have T2 := (T1'.below b2).mono b2.size
    have A2 := BytesAt.of_owns r2 rfl
    obtain ⟨g, cap, rfl, hg1, hg2, hg3, hg4⟩ : ∃ g cap, v2 = .slice (some ⟨g, 0, none⟩) 1 cap ∧ 1 ≤ cap ∧ cap ≤ maxLen ∧ g < w2.heap.size ∧ ∀ j u, [u0][j]? = some u → w2.cell? ⟨g, 0 + j, none⟩ = some (.int .u8 u.toNat) := by
      rcases owns_cells r2 with ⟨_, h, _⟩ | ⟨g, cap, rfl, q1, q2, q3, q4, q5⟩
      · simp at h
      · exact ⟨g, cap, rfl, q1, q2, q4, fun j u hj => q5 j _ (by unfold ubytes; rw [List.getElem?_map, hj]; rfl)⟩
    have c2 := points_any _ _ w2 A2 T2 (by simp)
    rw [hone] at c2
    clear r2 A2 b1 b2 bB T1 T1' hT
    unfold maxLen at hg2
    go_wp2_with fail
    refine c2.mono ?_
    clear c2
    rintro e w3 ⟨v3, rfl, r3, b3⟩
    have B13 := step B12 b3
    have T3 := (T2.below b3).mono b3.size
    obtain ⟨k, hk0⟩ : ∃ k : Nat, k = 0 := ⟨0, rfl⟩
    have hkn : k < 1 := by omega
    have A3 : BytesAt w3.heap.size w3 (.slice (some ⟨g, 0, none⟩) k cap) ([u0].take k) :=
      .inr ⟨g, 0, cap, by rw [List.length_take, Nat.min_eq_left (by simp; omega)], by simp; omega, by unfold maxLen; omega, Nat.lt_of_lt_of_le hg3 b3.size, fun j u hj => by
        rw [List.getElem?_take] at hj
        split at hj
        · exact (b3.cell (p := ⟨g, 0 + j, none⟩) hg3).trans (hg4 j u hj)
        · cases hj⟩
    have c3 := points_any _ _ w3 A3 T3 (by simp; omega)
    rw [hcut k hkn] at c3
    subst hk0
    clear A3 hg4
    go_wp2_with fail
    refine c3.mono ?_
    clear c3
    rintro e w4 ⟨v4, rfl, r4, b4⟩
    have B14 := step B13 b4
    have I4 := IntsAt.of_owns r4 rfl
    have I3 := ((IntsAt.of_owns r3 rfl).below b4)
    obtain ⟨p4, cap4, rfl, hl4⟩ := I4.const
    obtain ⟨g3, o3, cap3, rfl, hp3⟩ : ∃ g3 o3 cap3, v3 = .slice (some ⟨g3, o3, none⟩) 1 cap3 ∧ w4.cell? ⟨g3, o3, none⟩ = some (.int .i64 c) := by
      rcases I3.cases with ⟨h, _⟩ | ⟨g3, o3, cap3, rfl, _, _, _, h⟩
      · cases h
      · exact ⟨g3, o3, cap3, rfl, h 0 c rfl⟩
    clear r3 r4 I3 I4
    go_wp2
    go_loop [11] (fun i => i = .int .i64 0) (fun _ => 0)
    case atStart => rfl
    case round =>
      subst hrel
      clear hl4
      go_wp2
      go_ret
      exact ⟨rfl, B14⟩
  · have s1 : (55296 : Int) ≤ c := by omega
    have s2 : ¬ c ≤ (57343 : Int) := by omega
    clear hs
    omega

set_option maxRecDepth 100000 in
set_option maxHeartbeats 2000000 in
theorem one_2 (w : World) (hT : Tabs w.heap.size w) (c cut : Int) (h1 : 128 ≤ c) (h2 : c ≤ 2047) (hr : rightB c = true) (hc : 0 ≤ cut) :
    Calls Tryd.prog 8 #[.int .i64 c, .int .i64 cut] w fun e w' => e = .returned (.bool true) ∧ Below w.heap.size w w' := by
  have h0 := alive_any w hT
  obtain ⟨u0, u1, he, hcut⟩ := enc_2 h1 h2 hr
  have hone := ipts_one hr
  rw [he] at hone
  have hri := rightB_iff.1 hr
  have g1 : ¬ c < 0 := by omega
  have g2 : ¬ (1114111 : Int) < c := by omega
  have g3 : ¬ cut < 0 := by omega
  have t127 :  (127 : Int) < c := by omega
  have t2047 : ¬ (2047 : Int) < c := by omega
  have t65535 : ¬ (65535 : Int) < c := by omega
  have hs : (decide (55296 ≤ c) && decide (c ≤ 57343)) = false := by
    rw [Bool.and_eq_false_iff]
    rcases hri.2.2 with h | h
    · exact .inl (decide_eq_false (by omega))
    · exact .inr (decide_eq_false (by omega))
  have step : ∀ {x y : World}, Below w.heap.size w x → Below x.heap.size x y → Below w.heap.size w y := fun a b => a.trans (b.mono a.size)
  clear hri
  rcases (show c < 55296 ∨ 57343 < c from (rightB_iff.1 hr).2.2) with hside | hside
  · have s1 : ¬ (55296 : Int) ≤ c := by omega
    clear hs
    go_enter Tryd.func8, Tryd.ntmps8
    go_wp2_with fail
    refine h0.mono ?_
    rintro e w1 ⟨rfl, b1⟩
    clear h0
    have T1 := (hT.below b1).mono b1.size
    have bB : Below w1.heap.size w1 (w1.alloc (.cells #[.int .i64 c] 3)) := (Below.refl _ w1).alloc (Nat.le_refl _) _
    have I1 : IntsAt (w1.alloc (.cells #[.int .i64 c] 3)).heap.size (w1.alloc (.cells #[.int .i64 c] 3)) (.slice (some ⟨w1.heap.size, 0, none⟩) 1 1) [c] :=
      .inr ⟨w1.heap.size, 0, 1, rfl, Nat.le_refl _, by unfold maxLen; omega, by simp, fun j u hj => by
        rw [cell_of_block (World.alloc_heap_new w1 _)]
        match j, hj with
        | 0, hj => cases hj; rfl
        | j + 1, hj => simp at hj⟩
    have c1 := bytes_any _ [c] _ I1 (by simp)
    rw [encs_one, he] at c1
    have T1' := (T1.below bB).mono bB.size
    go_wp2_with fail
    refine c1.mono ?_
    clear c1 I1
    rintro e w2 ⟨v2, rfl, r2, b2⟩
    have B12 := step (step b1 bB) b2
    have T2 := (T1'.below b2).mono b2.size
    have A2 := BytesAt.of_owns r2 rfl
    obtain ⟨g, cap, rfl, hg1, hg2, hg3, hg4⟩ : ∃ g cap, v2 = .slice (some ⟨g, 0, none⟩) 2 cap ∧ 2 ≤ cap ∧ cap ≤ maxLen ∧ g < w2.heap.size ∧ ∀ j u, [u0, u1][j]? = some u → w2.cell? ⟨g, 0 + j, none⟩ = some (.int .u8 u.toNat) := by
      rcases owns_cells r2 with ⟨_, h, _⟩ | ⟨g, cap, rfl, q1, q2, q3, q4, q5⟩
      · simp at h
      · exact ⟨g, cap, rfl, q1, q2, q4, fun j u hj => q5 j _ (by unfold ubytes; rw [List.getElem?_map, hj]; rfl)⟩
    have c2 := points_any _ _ w2 A2 T2 (by simp)
    rw [hone] at c2
    clear r2 A2 b1 b2 bB T1 T1' hT
    unfold maxLen at hg2
    go_wp2_with fail
    refine c2.mono ?_
    clear c2
    rintro e w3 ⟨v3, rfl, r3, b3⟩
    have B13 := step B12 b3
    have T3 := (T2.below b3).mono b3.size
    obtain ⟨k, hk⟩ : ∃ k : Nat, (k : Int) = cut % 2 := ⟨(cut % 2).toNat, by omega⟩
    have hkn : k < 2 := by omega
    have A3 : BytesAt w3.heap.size w3 (.slice (some ⟨g, 0, none⟩) k cap) ([u0, u1].take k) :=
      .inr ⟨g, 0, cap, by rw [List.length_take, Nat.min_eq_left (by simp; omega)], by simp; omega, by unfold maxLen; omega, Nat.lt_of_lt_of_le hg3 b3.size, fun j u hj => by
        rw [List.getElem?_take] at hj
        split at hj
        · exact (b3.cell (p := ⟨g, 0 + j, none⟩) hg3).trans (hg4 j u hj)
        · cases hj⟩
    have c3 := points_any _ _ w3 A3 T3 (by simp; omega)
    rw [hcut k hkn] at c3
    have hkm : cut % 2 = (k : Int) := hk.symm
    clear hk A3 hg4
    go_wp2_with fail
    refine c3.mono ?_
    clear c3
    rintro e w4 ⟨v4, rfl, r4, b4⟩
    have B14 := step B13 b4
    have I4 := IntsAt.of_owns r4 rfl
    have I3 := ((IntsAt.of_owns r3 rfl).below b4)
    obtain ⟨p4, cap4, rfl, hl4⟩ := I4.const
    obtain ⟨g3, o3, cap3, rfl, hp3⟩ : ∃ g3 o3 cap3, v3 = .slice (some ⟨g3, o3, none⟩) 1 cap3 ∧ w4.cell? ⟨g3, o3, none⟩ = some (.int .i64 c) := by
      rcases I3.cases with ⟨h, _⟩ | ⟨g3, o3, cap3, rfl, _, _, _, h⟩
      · cases h
      · exact ⟨g3, o3, cap3, rfl, h 0 c rfl⟩
    clear r3 r4 I3 I4
    go_wp2
    go_loop [11] (fun i => ∃ q : Nat, i = .int .i64 q ∧ q ≤ k) (fun i => k - (intOf i).toNat)
    case atStart => exact ⟨0, rfl, Nat.zero_le _⟩
    case round =>
      obtain ⟨q, rfl, hq⟩ := hrel
      by_cases hqk : q < k
      · obtain ⟨bk, off, hp, c0⟩ := hl4 q hqk
        subst hp
        have hqi : (q : Int) < (k : Int) := by omega
        clear hl4
        go_wp2
        exact ⟨⟨q + 1, by go_num, by omega⟩, by simp [intOf]; omega⟩
      · have hqi : ¬ (q : Int) < (k : Int) := by omega
        clear hl4
        go_wp2
        go_ret
        exact ⟨rfl, B14⟩
  · have s1 : (55296 : Int) ≤ c := by omega
    have s2 : ¬ c ≤ (57343 : Int) := by omega
    clear hs
    omega

set_option maxRecDepth 100000 in
set_option maxHeartbeats 2000000 in
theorem one_3 (w : World) (hT : Tabs w.heap.size w) (c cut : Int) (h1 : 2048 ≤ c) (h2 : c ≤ 65535) (hr : rightB c = true) (hc : 0 ≤ cut) :
    Calls Tryd.prog 8 #[.int .i64 c, .int .i64 cut] w fun e w' => e = .returned (.bool true) ∧ Below w.heap.size w w' := by
  have h0 := alive_any w hT
  obtain ⟨u0, u1, u2, he, hcut⟩ := enc_3 h1 h2 hr
  have hone := ipts_one hr
  rw [he] at hone
  have hri := rightB_iff.1 hr
  have g1 : ¬ c < 0 := by omega
  have g2 : ¬ (1114111 : Int) < c := by omega
  have g3 : ¬ cut < 0 := by omega
  have t127 :  (127 : Int) < c := by omega
  have t2047 :  (2047 : Int) < c := by omega
  have t65535 : ¬ (65535 : Int) < c := by omega
  have hs : (decide (55296 ≤ c) && decide (c ≤ 57343)) = false := by
    rw [Bool.and_eq_false_iff]
    rcases hri.2.2 with h | h
    · exact .inl (decide_eq_false (by omega))
    · exact .inr (decide_eq_false (by omega))
  have step : ∀ {x y : World}, Below w.heap.size w x → Below x.heap.size x y → Below w.heap.size w y := fun a b => a.trans (b.mono a.size)
  clear hri
  rcases (show c < 55296 ∨ 57343 < c from (rightB_iff.1 hr).2.2) with hside | hside
  · have s1 : ¬ (55296 : Int) ≤ c := by omega
    clear hs
    go_enter Tryd.func8, Tryd.ntmps8
    go_wp2_with fail
    refine h0.mono ?_
    rintro e w1 ⟨rfl, b1⟩
    clear h0
    have T1 := (hT.below b1).mono b1.size
    have bB : Below w1.heap.size w1 (w1.alloc (.cells #[.int .i64 c] 3)) := (Below.refl _ w1).alloc (Nat.le_refl _) _
    have I1 : IntsAt (w1.alloc (.cells #[.int .i64 c] 3)).heap.size (w1.alloc (.cells #[.int .i64 c] 3)) (.slice (some ⟨w1.heap.size, 0, none⟩) 1 1) [c] :=
      .inr ⟨w1.heap.size, 0, 1, rfl, Nat.le_refl _, by unfold maxLen; omega, by simp, fun j u hj => by
        rw [cell_of_block (World.alloc_heap_new w1 _)]
        match j, hj with
        | 0, hj => cases hj; rfl
        | j + 1, hj => simp at hj⟩
    have c1 := bytes_any _ [c] _ I1 (by simp)
    rw [encs_one, he] at c1
    have T1' := (T1.below bB).mono bB.size
    go_wp2_with fail
    refine c1.mono ?_
    clear c1 I1
    rintro e w2 ⟨v2, rfl, r2, b2⟩
    have B12 := step (step b1 bB) b2
    have T2 := (T1'.below b2).mono b2.size
    have A2 := BytesAt.of_owns r2 rfl
    obtain ⟨g, cap, rfl, hg1, hg2, hg3, hg4⟩ : ∃ g cap, v2 = .slice (some ⟨g, 0, none⟩) 3 cap ∧ 3 ≤ cap ∧ cap ≤ maxLen ∧ g < w2.heap.size ∧ ∀ j u, [u0, u1, u2][j]? = some u → w2.cell? ⟨g, 0 + j, none⟩ = some (.int .u8 u.toNat) := by
      rcases owns_cells r2 with ⟨_, h, _⟩ | ⟨g, cap, rfl, q1, q2, q3, q4, q5⟩
      · simp at h
      · exact ⟨g, cap, rfl, q1, q2, q4, fun j u hj => q5 j _ (by unfold ubytes; rw [List.getElem?_map, hj]; rfl)⟩
    have c2 := points_any _ _ w2 A2 T2 (by simp)
    rw [hone] at c2
    clear r2 A2 b1 b2 bB T1 T1' hT
    unfold maxLen at hg2
    go_wp2_with fail
    refine c2.mono ?_
    clear c2
    rintro e w3 ⟨v3, rfl, r3, b3⟩
    have B13 := step B12 b3
    have T3 := (T2.below b3).mono b3.size
    obtain ⟨k, hk⟩ : ∃ k : Nat, (k : Int) = cut % 3 := ⟨(cut % 3).toNat, by omega⟩
    have hkn : k < 3 := by omega
    have A3 : BytesAt w3.heap.size w3 (.slice (some ⟨g, 0, none⟩) k cap) ([u0, u1, u2].take k) :=
      .inr ⟨g, 0, cap, by rw [List.length_take, Nat.min_eq_left (by simp; omega)], by simp; omega, by unfold maxLen; omega, Nat.lt_of_lt_of_le hg3 b3.size, fun j u hj => by
        rw [List.getElem?_take] at hj
        split at hj
        · exact (b3.cell (p := ⟨g, 0 + j, none⟩) hg3).trans (hg4 j u hj)
        · cases hj⟩
    have c3 := points_any _ _ w3 A3 T3 (by simp; omega)
    rw [hcut k hkn] at c3
    have hkm : cut % 3 = (k : Int) := hk.symm
    clear hk A3 hg4
    go_wp2_with fail
    refine c3.mono ?_
    clear c3
    rintro e w4 ⟨v4, rfl, r4, b4⟩
    have B14 := step B13 b4
    have I4 := IntsAt.of_owns r4 rfl
    have I3 := ((IntsAt.of_owns r3 rfl).below b4)
    obtain ⟨p4, cap4, rfl, hl4⟩ := I4.const
    obtain ⟨g3, o3, cap3, rfl, hp3⟩ : ∃ g3 o3 cap3, v3 = .slice (some ⟨g3, o3, none⟩) 1 cap3 ∧ w4.cell? ⟨g3, o3, none⟩ = some (.int .i64 c) := by
      rcases I3.cases with ⟨h, _⟩ | ⟨g3, o3, cap3, rfl, _, _, _, h⟩
      · cases h
      · exact ⟨g3, o3, cap3, rfl, h 0 c rfl⟩
    clear r3 r4 I3 I4
    go_wp2
    go_loop [11] (fun i => ∃ q : Nat, i = .int .i64 q ∧ q ≤ k) (fun i => k - (intOf i).toNat)
    case atStart => exact ⟨0, rfl, Nat.zero_le _⟩
    case round =>
      obtain ⟨q, rfl, hq⟩ := hrel
      by_cases hqk : q < k
      · obtain ⟨bk, off, hp, c0⟩ := hl4 q hqk
        subst hp
        have hqi : (q : Int) < (k : Int) := by omega
        clear hl4
        go_wp2
        exact ⟨⟨q + 1, by go_num, by omega⟩, by simp [intOf]; omega⟩
      · have hqi : ¬ (q : Int) < (k : Int) := by omega
        clear hl4
        go_wp2
        go_ret
        exact ⟨rfl, B14⟩
  · have s1 : (55296 : Int) ≤ c := by omega
    have s2 : ¬ c ≤ (57343 : Int) := by omega
    clear hs
    go_enter Tryd.func8, Tryd.ntmps8
    go_wp2_with fail
    refine h0.mono ?_
    rintro e w1 ⟨rfl, b1⟩
    clear h0
    have T1 := (hT.below b1).mono b1.size
    have bB : Below w1.heap.size w1 (w1.alloc (.cells #[.int .i64 c] 3)) := (Below.refl _ w1).alloc (Nat.le_refl _) _
    have I1 : IntsAt (w1.alloc (.cells #[.int .i64 c] 3)).heap.size (w1.alloc (.cells #[.int .i64 c] 3)) (.slice (some ⟨w1.heap.size, 0, none⟩) 1 1) [c] :=
      .inr ⟨w1.heap.size, 0, 1, rfl, Nat.le_refl _, by unfold maxLen; omega, by simp, fun j u hj => by
        rw [cell_of_block (World.alloc_heap_new w1 _)]
        match j, hj with
        | 0, hj => cases hj; rfl
        | j + 1, hj => simp at hj⟩
    have c1 := bytes_any _ [c] _ I1 (by simp)
    rw [encs_one, he] at c1
    have T1' := (T1.below bB).mono bB.size
    go_wp2_with fail
    refine c1.mono ?_
    clear c1 I1
    rintro e w2 ⟨v2, rfl, r2, b2⟩
    have B12 := step (step b1 bB) b2
    have T2 := (T1'.below b2).mono b2.size
    have A2 := BytesAt.of_owns r2 rfl
    obtain ⟨g, cap, rfl, hg1, hg2, hg3, hg4⟩ : ∃ g cap, v2 = .slice (some ⟨g, 0, none⟩) 3 cap ∧ 3 ≤ cap ∧ cap ≤ maxLen ∧ g < w2.heap.size ∧ ∀ j u, [u0, u1, u2][j]? = some u → w2.cell? ⟨g, 0 + j, none⟩ = some (.int .u8 u.toNat) := by
      rcases owns_cells r2 with ⟨_, h, _⟩ | ⟨g, cap, rfl, q1, q2, q3, q4, q5⟩
      · simp at h
      · exact ⟨g, cap, rfl, q1, q2, q4, fun j u hj => q5 j _ (by unfold ubytes; rw [List.getElem?_map, hj]; rfl)⟩
    have c2 := points_any _ _ w2 A2 T2 (by simp)
    rw [hone] at c2
    clear r2 A2 b1 b2 bB T1 T1' hT
    unfold maxLen at hg2
    go_wp2_with fail
    refine c2.mono ?_
    clear c2
    rintro e w3 ⟨v3, rfl, r3, b3⟩
    have B13 := step B12 b3
    have T3 := (T2.below b3).mono b3.size
    obtain ⟨k, hk⟩ : ∃ k : Nat, (k : Int) = cut % 3 := ⟨(cut % 3).toNat, by omega⟩
    have hkn : k < 3 := by omega
    have A3 : BytesAt w3.heap.size w3 (.slice (some ⟨g, 0, none⟩) k cap) ([u0, u1, u2].take k) :=
      .inr ⟨g, 0, cap, by rw [List.length_take, Nat.min_eq_left (by simp; omega)], by simp; omega, by unfold maxLen; omega, Nat.lt_of_lt_of_le hg3 b3.size, fun j u hj => by
        rw [List.getElem?_take] at hj
        split at hj
        · exact (b3.cell (p := ⟨g, 0 + j, none⟩) hg3).trans (hg4 j u hj)
        · cases hj⟩
    have c3 := points_any _ _ w3 A3 T3 (by simp; omega)
    rw [hcut k hkn] at c3
    have hkm : cut % 3 = (k : Int) := hk.symm
    clear hk A3 hg4
    go_wp2_with fail
    refine c3.mono ?_
    clear c3
    rintro e w4 ⟨v4, rfl, r4, b4⟩
    have B14 := step B13 b4
    have I4 := IntsAt.of_owns r4 rfl
    have I3 := ((IntsAt.of_owns r3 rfl).below b4)
    obtain ⟨p4, cap4, rfl, hl4⟩ := I4.const
    obtain ⟨g3, o3, cap3, rfl, hp3⟩ : ∃ g3 o3 cap3, v3 = .slice (some ⟨g3, o3, none⟩) 1 cap3 ∧ w4.cell? ⟨g3, o3, none⟩ = some (.int .i64 c) := by
      rcases I3.cases with ⟨h, _⟩ | ⟨g3, o3, cap3, rfl, _, _, _, h⟩
      · cases h
      · exact ⟨g3, o3, cap3, rfl, h 0 c rfl⟩
    clear r3 r4 I3 I4
    go_wp2
    go_loop [11] (fun i => ∃ q : Nat, i = .int .i64 q ∧ q ≤ k) (fun i => k - (intOf i).toNat)
    case atStart => exact ⟨0, rfl, Nat.zero_le _⟩
    case round =>
      obtain ⟨q, rfl, hq⟩ := hrel
      by_cases hqk : q < k
      · obtain ⟨bk, off, hp, c0⟩ := hl4 q hqk
        subst hp
        have hqi : (q : Int) < (k : Int) := by omega
        clear hl4
        go_wp2
        exact ⟨⟨q + 1, by go_num, by omega⟩, by simp [intOf]; omega⟩
      · have hqi : ¬ (q : Int) < (k : Int) := by omega
        clear hl4
        go_wp2
        go_ret
        exact ⟨rfl, B14⟩

set_option maxRecDepth 100000 in
set_option maxHeartbeats 2000000 in
theorem one_4 (w : World) (hT : Tabs w.heap.size w) (c cut : Int) (h1 : 65536 ≤ c) (h2 : c ≤ 1114111) (hr : rightB c = true) (hc : 0 ≤ cut) :
    Calls Tryd.prog 8 #[.int .i64 c, .int .i64 cut] w fun e w' => e = .returned (.bool true) ∧ Below w.heap.size w w' := by
  have h0 := alive_any w hT
  obtain ⟨u0, u1, u2, u3, he, hcut⟩ := enc_4 h1 h2 hr
  have hone := ipts_one hr
  rw [he] at hone
  have hri := rightB_iff.1 hr
  have g1 : ¬ c < 0 := by omega
  have g2 : ¬ (1114111 : Int) < c := by omega
  have g3 : ¬ cut < 0 := by omega
  have t127 :  (127 : Int) < c := by omega
  have t2047 :  (2047 : Int) < c := by omega
  have t65535 :  (65535 : Int) < c := by omega
  have hs : (decide (55296 ≤ c) && decide (c ≤ 57343)) = false := by
    rw [Bool.and_eq_false_iff]
    rcases hri.2.2 with h | h
    · exact .inl (decide_eq_false (by omega))
    · exact .inr (decide_eq_false (by omega))
  have step : ∀ {x y : World}, Below w.heap.size w x → Below x.heap.size x y → Below w.heap.size w y := fun a b => a.trans (b.mono a.size)
  clear hri
  rcases (show c < 55296 ∨ 57343 < c from (rightB_iff.1 hr).2.2) with hside | hside
  · have s1 : ¬ (55296 : Int) ≤ c := by omega
    clear hs
    omega
  · have s1 : (55296 : Int) ≤ c := by omega
    have s2 : ¬ c ≤ (57343 : Int) := by omega
    clear hs
    go_enter Tryd.func8, Tryd.ntmps8
    go_wp2_with fail
    refine h0.mono ?_
    rintro e w1 ⟨rfl, b1⟩
    clear h0
    have T1 := (hT.below b1).mono b1.size
    have bB : Below w1.heap.size w1 (w1.alloc (.cells #[.int .i64 c] 3)) := (Below.refl _ w1).alloc (Nat.le_refl _) _
    have I1 : IntsAt (w1.alloc (.cells #[.int .i64 c] 3)).heap.size (w1.alloc (.cells #[.int .i64 c] 3)) (.slice (some ⟨w1.heap.size, 0, none⟩) 1 1) [c] :=
      .inr ⟨w1.heap.size, 0, 1, rfl, Nat.le_refl _, by unfold maxLen; omega, by simp, fun j u hj => by
        rw [cell_of_block (World.alloc_heap_new w1 _)]
        match j, hj with
        | 0, hj => cases hj; rfl
        | j + 1, hj => simp at hj⟩
    have c1 := bytes_any _ [c] _ I1 (by simp)
    rw [encs_one, he] at c1
    have T1' := (T1.below bB).mono bB.size
    go_wp2_with fail
    refine c1.mono ?_
    clear c1 I1
    rintro e w2 ⟨v2, rfl, r2, b2⟩
    have B12 := step (step b1 bB) b2
    have T2 := (T1'.below b2).mono b2.size
    have A2 := BytesAt.of_owns r2 rfl
    obtain ⟨g, cap, rfl, hg1, hg2, hg3, hg4⟩ : ∃ g cap, v2 = .slice (some ⟨g, 0, none⟩) 4 cap ∧ 4 ≤ cap ∧ cap ≤ maxLen ∧ g < w2.heap.size ∧ ∀ j u, [u0, u1, u2, u3][j]? = some u → w2.cell? ⟨g, 0 + j, none⟩ = some (.int .u8 u.toNat) := by
      rcases owns_cells r2 with ⟨_, h, _⟩ | ⟨g, cap, rfl, q1, q2, q3, q4, q5⟩
      · simp at h
      · exact ⟨g, cap, rfl, q1, q2, q4, fun j u hj => q5 j _ (by unfold ubytes; rw [List.getElem?_map, hj]; rfl)⟩
    have c2 := points_any _ _ w2 A2 T2 (by simp)
    rw [hone] at c2
    clear r2 A2 b1 b2 bB T1 T1' hT
    unfold maxLen at hg2
    go_wp2_with fail
    refine c2.mono ?_
    clear c2
    rintro e w3 ⟨v3, rfl, r3, b3⟩
    have B13 := step B12 b3
    have T3 := (T2.below b3).mono b3.size
    obtain ⟨k, hk⟩ : ∃ k : Nat, (k : Int) = cut % 4 := ⟨(cut % 4).toNat, by omega⟩
    have hkn : k < 4 := by omega
    have A3 : BytesAt w3.heap.size w3 (.slice (some ⟨g, 0, none⟩) k cap) ([u0, u1, u2, u3].take k) :=
      .inr ⟨g, 0, cap, by rw [List.length_take, Nat.min_eq_left (by simp; omega)], by simp; omega, by unfold maxLen; omega, Nat.lt_of_lt_of_le hg3 b3.size, fun j u hj => by
        rw [List.getElem?_take] at hj
        split at hj
        · exact (b3.cell (p := ⟨g, 0 + j, none⟩) hg3).trans (hg4 j u hj)
        · cases hj⟩
    have c3 := points_any _ _ w3 A3 T3 (by simp; omega)
    rw [hcut k hkn] at c3
    have hkm : cut % 4 = (k : Int) := hk.symm
    clear hk A3 hg4
    go_wp2_with fail
    refine c3.mono ?_
    clear c3
    rintro e w4 ⟨v4, rfl, r4, b4⟩
    have B14 := step B13 b4
    have I4 := IntsAt.of_owns r4 rfl
    have I3 := ((IntsAt.of_owns r3 rfl).below b4)
    obtain ⟨p4, cap4, rfl, hl4⟩ := I4.const
    obtain ⟨g3, o3, cap3, rfl, hp3⟩ : ∃ g3 o3 cap3, v3 = .slice (some ⟨g3, o3, none⟩) 1 cap3 ∧ w4.cell? ⟨g3, o3, none⟩ = some (.int .i64 c) := by
      rcases I3.cases with ⟨h, _⟩ | ⟨g3, o3, cap3, rfl, _, _, _, h⟩
      · cases h
      · exact ⟨g3, o3, cap3, rfl, h 0 c rfl⟩
    clear r3 r4 I3 I4
    go_wp2
    go_loop [11] (fun i => ∃ q : Nat, i = .int .i64 q ∧ q ≤ k) (fun i => k - (intOf i).toNat)
    case atStart => exact ⟨0, rfl, Nat.zero_le _⟩
    case round =>
      obtain ⟨q, rfl, hq⟩ := hrel
      by_cases hqk : q < k
      · obtain ⟨bk, off, hp, c0⟩ := hl4 q hqk
        subst hp
        have hqi : (q : Int) < (k : Int) := by omega
        clear hl4
        go_wp2
        exact ⟨⟨q + 1, by go_num, by omega⟩, by simp [intOf]; omega⟩
      · have hqi : ¬ (q : Int) < (k : Int) := by omega
        clear hl4
        go_wp2
        go_ret
        exact ⟨rfl, B14⟩

set_option maxRecDepth 100000 in
set_option maxHeartbeats 2000000 in
theorem textOne_walk (w : World) (hT : Tabs w.heap.size w) (c : Int) (_hc : (Lit.int .i64 c).wf = true) (cut : Int) (_hcut : (Lit.int .i64 cut).wf = true) :
    Calls Tryd.prog 8 #[.int .i64 c, .int .i64 cut] w fun e w' => e = .returned (.bool true) ∧ Below w.heap.size w w' := by
  have h0 := alive_any w hT
  by_cases g1 : c < 0
  · clear hT
    go_enter Tryd.func8, Tryd.ntmps8
    go_wp2_with fail
    refine h0.mono ?_
    rintro e w1 ⟨rfl, b1⟩
    clear h0
    go_wp2
    go_ret
    exact ⟨rfl, b1⟩
  · by_cases g2 : (1114111 : Int) < c
    · clear hT
      go_enter Tryd.func8, Tryd.ntmps8
      go_wp2_with fail
      refine h0.mono ?_
      rintro e w1 ⟨rfl, b1⟩
      clear h0
      go_wp2
      go_ret
      exact ⟨rfl, b1⟩
    · by_cases g3 : c < 55296 ∨ 57343 < c
      · by_cases g4 : cut < 0
        · clear hT
          rcases g3 with g3 | g3
          · have s1 : ¬ (55296 : Int) ≤ c := by omega
            go_enter Tryd.func8, Tryd.ntmps8
            go_wp2_with fail
            refine h0.mono ?_
            rintro e w1 ⟨rfl, b1⟩
            clear h0
            go_wp2
            go_ret
            exact ⟨rfl, b1⟩
          · have s1 : (55296 : Int) ≤ c := by omega
            have s2 : ¬ c ≤ (57343 : Int) := by omega
            go_enter Tryd.func8, Tryd.ntmps8
            go_wp2_with fail
            refine h0.mono ?_
            rintro e w1 ⟨rfl, b1⟩
            clear h0
            go_wp2
            go_ret
            exact ⟨rfl, b1⟩
        · have hr : rightB c = true := rightB_true (by omega)
          by_cases q1 : c ≤ 127
          · exact one_1 w hT c cut (by omega) q1 hr (by omega)
          · by_cases q2 : c ≤ 2047
            · exact one_2 w hT c cut (by omega) q2 hr (by omega)
            · by_cases q3 : c ≤ 65535
              · exact one_3 w hT c cut (by omega) q3 hr (by omega)
              · exact one_4 w hT c cut (by omega) (by omega) hr (by omega)
      · have s1 : (55296 : Int) ≤ c := by omega
        have s2 : c ≤ (57343 : Int) := by omega
        clear hT g3
        go_enter Tryd.func8, Tryd.ntmps8
        go_wp2_with fail
        refine h0.mono ?_
        rintro e w1 ⟨rfl, b1⟩
        clear h0
        go_wp2
        go_ret
        exact ⟨rfl, b1⟩

theorem textOne_met (os : Os) : laidMet Tryd.prog Rows.textOneRow.laid ((laidIn (World.holding Tryd.prog os ⟨#[], #[], []⟩)).forCall (fun _ _ => 0) ⟨#[], #[.int .i64 0, .int .i64 0], []⟩).memory :=
  laidMet_of_run' 8 (by kernel_rfl) (by kernel_rfl)
theorem textOne_reads (os : Os) {H : Type} (enc : TypeId × Value → H) : ∃ places, DataW.whole enc Tryd.prog ((laidIn (World.holding Tryd.prog os ⟨#[], #[], []⟩)).forCall (fun _ _ => 0) ⟨#[], #[.int .i64 0, .int .i64 0], []⟩).memory Tryd.f8.params.toList Rows.textOneSpec.vars false (#[.int .i64 0, .int .i64 0] : Array Value).toList 8 = some ([.lit (.int .i64 0), .lit (.int .i64 0)], [], places) :=
  ⟨[], by kernel_rfl⟩

set_option maxRecDepth 100000 in
theorem textOne_lifted (os : Os) (started : os.Started) (H : Type) (enc : TypeId × Value → H) (F : Stop.Interp) :
    ReturnsInHanded {} Tryd.checked os 8 .any ((OpenSpec.ofChange Rows.textOneSpec).preRow enc Tryd.prog Tryd.f8 Rows.textOneRow.domain false Rows.textOneRow.laid) (((OpenSpec.ofChange Rows.textOneSpec).at F).post enc Tryd.prog Tryd.f8 false true false false) := by
  obtain ⟨places, hx⟩ := textOne_reads os enc
  refine returnsInHanded_of_row (C := Tryd.checked) (s := OpenSpec.ofChange Rows.textOneSpec) ownNone started (by kernel_rfl) Tryd.func8
    (witness_row_at (enc := enc) (C := Tryd.checked) false (laidIn (World.holding Tryd.prog os ⟨#[], #[], []⟩)) #[.int .i64 0, .int .i64 0] rfl (by kernel_rfl) (by kernel_rfl) (by kernel_rfl)
      (OpenSpec.preRow_of_cond 8 hx (by kernel_rfl) (fun k hk => by cases hk) (by kernel_rfl) (textOne_met os))) ?_
  intro W base args ds gs before hval hW _ _ _ hL _ _
  have hW' := hW
  obtain ⟨p, q, hA0, hV, rfl, hfz, hnd⟩ := hW
  have hA : DataW.TrodAll enc Tryd.prog W 0 (fun _ => true) true Tryd.f8.params.toList args.toList ds p := hA0
  rw [Tryd.params8] at hA hval
  obtain ⟨v0, vs0, d0, ds0, p0, q0, hargs, rfl, rfl, h0, r0⟩ := trodAll_cons hA
  obtain ⟨v1, vs1, d1, ds1, p1, q1, rfl, rfl, rfl, h1, r1⟩ := trodAll_cons r0
  obtain ⟨rfl, rfl, rfl⟩ := trodAll_nil r1
  obtain rfl : args = #[v0, v1] := by cases args; simp_all
  obtain ⟨rfl, rfl⟩ := trodVars_none hV
  obtain ⟨a0, rfl, rfl, rfl, w0⟩ := open_int Tryd.underlying3 (hval 0 3 v0 rfl rfl) h0
  obtain ⟨a1, rfl, rfl, rfl, w1⟩ := open_int Tryd.underlying3 (hval 1 3 v1 rfl rfl) h1
  clear hA0
  refine (textOne_walk W (tabs_of_laid hL) a0 w0 a1 w1).mono fun e W' ⟨he, bel⟩ => ?_
  subst he
  exact ⟨_, rfl, _, _, _, [], _, [], hW', trodAll_mk1 (shut_bool Tryd.underlying4 _), (trodAll_cons_mk (shut_int Tryd.underlying3 w0) (trodAll_cons_mk (shut_int Tryd.underlying3 w1) trodAll_mk0)), rfl, bel.frame _, fun h => by cases h⟩

theorem textOne_said : Rows.TextOneSaid :=
  OpenClaim.holds_of_cond 8 Tryd.f8 rfl rfl rfl rfl rfl rfl rfl ⟨rfl, rfl, rfl, rfl, rfl⟩ rfl rfl rfl rfl rfl (by kernel_rfl) Tryd.func8 (by kernel_rfl)
    (of_decide_eq_true (by kernel_rfl)) (by unfold Func.isWrapper; first | (rw [if_pos (by decide +kernel)]; kernel_rfl) | (rw [if_neg (by decide +kernel)]; exact ⟨rfl, rfl⟩))
    (fun os started H enc _ F => by rw [OpenClaim.pre_eq_preRow]; exact textOne_lifted os started H enc F)

theorem textOne_plain (f : FuncId) (fn : Func) (hf : Tryd.pinned.checked.prog.funcNamed "tapestrier/tapestrierlaw1.TextOne" = some f) (hfn : Tryd.pinned.checked.prog.funcs[f]? = some fn) :
    false = Tryd.pinned.checked.prog.looks [] ∧ ∀ (j : Nat) t, fn.params[j]? = some t → Tryd.pinned.checked.prog.wantsStandIn t = false := by
  obtain rfl : f = 8 := Option.some.inj ((show Tryd.prog.funcNamed "tapestrier/tapestrierlaw1.TextOne" = some 8 by kernel_rfl).symm.trans hf) |>.symm
  obtain rfl : fn = Tryd.f8 := (Option.some.inj (Tryd.func8.symm.trans hfn)).symm
  refine ⟨by kernel_rfl, fun j t ht => ?_⟩
  rw [Tryd.params8] at ht
  have hm : t ∈ [3] := by simpa using Array.mem_of_getElem? ht
  have hall : ([3].all fun u => !Tryd.prog.wantsStandIn u) = true := by kernel_rfl
  exact (show Tryd.prog.wantsStandIn t = false by simpa using List.all_eq_true.1 hall t hm)

theorem textOne_card : Rows.TextOneCardSaid :=
  Claim7.holds_tied_plain_at .later [] _ _ _ _ textOne_said (fun _ h => by cases h) (by kernel_rfl) (fun _ h => by cases h) textOne_row_tie rfl ⟨rfl, rfl⟩ (by kernel_rfl) rfl textOne_plain (by kernel_rfl)
#print axioms textOne_card

end Go.Proofs.YtpbgefgoccmncaaDoor
