/- For every byte: the law tapestrierlaw4.TokSigns returns true and leaves its argument as it was; conditions: the tables hold what their texts lay (the card ties them to the program's text). -/
import Derived.Test.YtaecamnlimlpkabDoorTkUse
namespace Go.Proofs.YtaecamnlimlpkabDoor
open Go Go.ChangeShapes Go.WideShapes Go.ChangeAt Go.RowKit

/-- A byte that is a sign of none of the kinds with a token of their own, and begins nothing. -/
def isDelim (a : Int) : Prop := 32 < a ∧ a < 127 ∧ a ≠ 34 ∧ a ≠ 39 ∧ a ≠ 95 ∧ ¬ (48 ≤ a ∧ a ≤ 57) ∧ ¬ (97 ≤ a ∧ a ≤ 122) ∧ ¬ (65 ≤ a ∧ a ≤ 90)
theorem tks_one {u : UInt8} (h1 : u.toNat < 128) (h2 : u.toNat ≠ 13) (h3 : u.toNat ≠ 12) (h4 : u.toNat ≠ 0) : tksOf [u] = toks nvOf [(u.toNat : Int)] := by
  unfold tksOf
  rw [prep_ints [u] (fun x hx => by simp at hx; subst hx; exact ⟨h1, h2, h3, h4⟩)]
  rfl
theorem u8_of {a : Int} (h0 : 0 ≤ a) (h1 : a ≤ 255) : ((UInt8.ofNat a.toNat).toNat : Int) = a := by
  rw [UInt8.toNat_ofNat']
  omega

set_option maxRecDepth 100000 in
set_option maxHeartbeats 8000000 in
theorem tokSigns_walk (w : World) (hT : LTabs w.heap.size w) (a : Int) (wa : (Lit.int .u8 a).wf = true) :
    Calls Tryd.prog 4 #[.int .u8 a] w fun e w' => e = .returned (.bool true) ∧ Below w.heap.size w w' := by
  have ha : 0 ≤ a ∧ a ≤ 255 := by
    simp [Lit.wf, IntKind.min, IntKind.max, IntKind.signed, IntKind.bits] at wa
    omega
  clear wa
  obtain ⟨ha0, ha1⟩ := ha
  obtain ⟨u, hu⟩ : ∃ u : UInt8, (u.toNat : Int) = a := ⟨UInt8.ofNat a.toNat, u8_of ha0 ha1⟩
  have h0 := alive_any w hT
  have hl1 := tksOf_len [u]
  rw [List.length_singleton] at hl1
  have hsg : 0 < sign a → tksOf [u] = [⟨sign a, [], 0, false, 0⟩] := fun h => by
    have hc : a = 58 ∨ a = 59 ∨ a = 44 ∨ a = 123 ∨ a = 125 ∨ a = 40 ∨ a = 41 ∨ a = 91 ∨ a = 93 := by
      unfold sign at h
      repeat' split at h
      all_goals omega
    rw [tks_one (by omega) (by omega) (by omega) (by omega), hu]
    exact toks_sign nvOf h
  have hdl : isDelim a → sign a = 0 → tksOf [u] = [⟨10, [], 0, false, a⟩] := fun h hs => by
    obtain ⟨d1, d2, d3, d4, d5, d6, d7, d8⟩ := h
    rw [tks_one (by omega) (by omega) (by omega) (by omega), hu]
    exact toks_delim nvOf d1 d2 d3 d4 d5 d6 d7 d8 hs
  go_enter Tryd.func4, Tryd.ntmps4
  go_wp2_with fail
  refine h0.mono ?_
  clear h0
  rintro e w1 ⟨rfl, b1⟩
  have T1 := hT.next b1
  have B2 := bytes_new w1 [u] 5 (0, 0) (by simp)
  have e2 : (ubytes [u]).toArray = #[.int .u8 a] := by simp [ubytes, hu]
  rw [e2, ← World.size_alloc w1 (.cells #[.int .u8 a] 5)] at B2
  have b2 : Below w1.heap.size w1 (w1.alloc (.cells #[.int .u8 a] 5)) := (Below.refl _ w1).alloc (Nat.le_refl _) _
  have h3 := ofB_any _ _ _ B2 (T1.next b2) (by simp)
  clear e2 B2
  go_wp2_with fail
  generalize w1.alloc (.cells #[.int .u8 a] 5) = w2 at *
  refine h3.mono ?_
  clear h3
  rintro e w3 ⟨v3, rfl, r3, b3⟩
  have b13 := (b1.trans (b2.mono b1.size)).trans (b3.mono (Nat.le_trans b1.size b2.size))
  have t3 := TksAt.of_owns r3
  clear r3 b2 b3 T1 hT
  generalize tksOf [u] = ts at *
  clear hu
  have hcv := Lib.run_convert_bytes_const (P := Tryd.prog) w3 24 5 #[.int .u8 58, .int .u8 59, .int .u8 44, .int .u8 123, .int .u8 125, .int .u8 40, .int .u8 41, .int .u8 91, .int .u8 93] 9 9 Tryd.underlying24 Tryd.underlying5
  have hcv' : (convert 24 24 (.slice (some ⟨w3.heap.size, 0, none⟩) 9 9)).run Tryd.prog (w3.alloc (.cells #[.int .u8 58, .int .u8 59, .int .u8 44, .int .u8 123, .int .u8 125, .int .u8 40, .int .u8 41, .int .u8 91, .int .u8 93] 5)) = .ok (.slice (some ⟨w3.heap.size, 0, none⟩) 9 9) (w3.alloc (.cells #[.int .u8 58, .int .u8 59, .int .u8 44, .int .u8 123, .int .u8 125, .int .u8 40, .int .u8 41, .int .u8 91, .int .u8 93] 5 (9, 10))) := hcv
  clear hcv
  obtain ⟨p3, c3, rfl⟩ := t3.len
  go_upto_region 5 with fail
  clear hcv'
  have e4 : (w3.alloc (.cells #[.int .u8 58, .int .u8 59, .int .u8 44, .int .u8 123, .int .u8 125, .int .u8 40, .int .u8 41, .int .u8 91, .int .u8 93] 5 (9, 10))).heap.size = w3.heap.size + 1 := World.size_alloc _ _
  have b4 : Below w3.heap.size w3 ((w3.alloc (.cells #[.int .u8 58, .int .u8 59, .int .u8 44, .int .u8 123, .int .u8 125, .int .u8 40, .int .u8 41, .int .u8 91, .int .u8 93] 5 (9, 10))).alloc (.cells #[.int .i64 11, .int .i64 12, .int .i64 13, .int .i64 14, .int .i64 15, .int .i64 16, .int .i64 17, .int .i64 18, .int .i64 19] 3)) := ((Below.refl _ w3).alloc (Nat.le_refl _) _).alloc (by rw [e4]; omega) _
  have cl : ∀ j x, (#[.int .u8 58, .int .u8 59, .int .u8 44, .int .u8 123, .int .u8 125, .int .u8 40, .int .u8 41, .int .u8 91, .int .u8 93] : Array Value)[j]? = some x → ((w3.alloc (.cells #[.int .u8 58, .int .u8 59, .int .u8 44, .int .u8 123, .int .u8 125, .int .u8 40, .int .u8 41, .int .u8 91, .int .u8 93] 5 (9, 10))).alloc (.cells #[.int .i64 11, .int .i64 12, .int .i64 13, .int .i64 14, .int .i64 15, .int .i64 16, .int .i64 17, .int .i64 18, .int .i64 19] 3)).cell? ⟨w3.heap.size, j, none⟩ = some x := fun j x hx => by
    have h1 : (w3.alloc (.cells #[.int .u8 58, .int .u8 59, .int .u8 44, .int .u8 123, .int .u8 125, .int .u8 40, .int .u8 41, .int .u8 91, .int .u8 93] 5 (9, 10))).cell? ⟨w3.heap.size, j, none⟩ = some x := (cell_of_block (World.alloc_heap_new w3 _) j).trans hx
    exact (((Below.refl _ (w3.alloc (.cells #[.int .u8 58, .int .u8 59, .int .u8 44, .int .u8 123, .int .u8 125, .int .u8 40, .int .u8 41, .int .u8 91, .int .u8 93] 5 (9, 10)))).alloc (Nat.le_refl _) (.cells #[.int .i64 11, .int .i64 12, .int .i64 13, .int .i64 14, .int .i64 15, .int .i64 16, .int .i64 17, .int .i64 18, .int .i64 19] 3)).cell (p := ⟨w3.heap.size, j, none⟩) (by show w3.heap.size < _; rw [e4]; omega)).trans h1
  have ck : ∀ j x, (#[.int .i64 11, .int .i64 12, .int .i64 13, .int .i64 14, .int .i64 15, .int .i64 16, .int .i64 17, .int .i64 18, .int .i64 19] : Array Value)[j]? = some x → ((w3.alloc (.cells #[.int .u8 58, .int .u8 59, .int .u8 44, .int .u8 123, .int .u8 125, .int .u8 40, .int .u8 41, .int .u8 91, .int .u8 93] 5 (9, 10))).alloc (.cells #[.int .i64 11, .int .i64 12, .int .i64 13, .int .i64 14, .int .i64 15, .int .i64 16, .int .i64 17, .int .i64 18, .int .i64 19] 3)).cell? ⟨w3.heap.size + 1, j, none⟩ = some x := fun j x hx => by
    rw [← e4]
    exact (cell_of_block (World.alloc_heap_new (w3.alloc (.cells #[.int .u8 58, .int .u8 59, .int .u8 44, .int .u8 123, .int .u8 125, .int .u8 40, .int .u8 41, .int .u8 91, .int .u8 93] 5 (9, 10))) _) j).trans hx
  clear e4
  generalize (w3.alloc (.cells #[.int .u8 58, .int .u8 59, .int .u8 44, .int .u8 123, .int .u8 125, .int .u8 40, .int .u8 41, .int .u8 91, .int .u8 93] 5 (9, 10))).alloc (.cells #[.int .i64 11, .int .i64 12, .int .i64 13, .int .i64 14, .int .i64 15, .int .i64 16, .int .i64 17, .int .i64 18, .int .i64 19] 3) = w4 at *
  have t4 := t3.next b4
  have b14 := b13.trans (b4.mono b13.size)
  clear t3 b4 b13
  go_wp2
  go_loopw [7] (fun i wr => ∃ k n : Nat, i = .int .i64 k ∧ k ≤ 9 ∧ (signPts.take k).all (· != a) = true ∧ wr = w4.drewN n) (fun i _ => 9 - (intOf i).toNat)
  case atStart => exact ⟨0, 0, rfl, by omega, rfl, rfl⟩
  case round =>
    obtain ⟨k, n, rfl, hk, hal, rfl⟩ := hrel
    obtain rfl | rfl | rfl | rfl | rfl | rfl | rfl | rfl | rfl | rfl : k = 0 ∨ k = 1 ∨ k = 2 ∨ k = 3 ∨ k = 4 ∨ k = 5 ∨ k = 6 ∨ k = 7 ∨ k = 8 ∨ k = 9 := by omega
    · have c0 := cl 0 _ rfl
      have c1 := ck 0 _ rfl
      clear cl ck
      by_cases hp : a = 58
      · subst hp
        have ets := hsg (by decide)
        rw [show sign 58 = 11 from rfl] at ets
        subst ets
        rcases t4 with ⟨h, _⟩ | ⟨g, off, cap, e, _, hc⟩
        · cases h
        · cases e
          obtain ⟨a0, a1, a2, a3, a4⟩ := hc 0 _ rfl
          rw [txtOf_nil] at a1
          simp only [Nat.zero_mul, Nat.add_zero] at a0 a1 a2 a3 a4
          clear hc hsg hdl hal
          go_wp2
          go_quiet (fail)
          go_wp2
          go_ret
          exact ⟨rfl, b14.os, b14.tape, b14.output, b14.size, b14.block⟩
      · have hp' : ((58 : Int) == a) = false := by simp; omega
        go_wp2
        exact ⟨⟨1, n, rfl, by omega, all_next hal rfl (fun e => hp e.symm), rfl⟩, by simp [intOf]⟩
    · have c0 := cl 1 _ rfl
      have c1 := ck 1 _ rfl
      clear cl ck
      by_cases hp : a = 59
      · subst hp
        have ets := hsg (by decide)
        rw [show sign 59 = 12 from rfl] at ets
        subst ets
        rcases t4 with ⟨h, _⟩ | ⟨g, off, cap, e, _, hc⟩
        · cases h
        · cases e
          obtain ⟨a0, a1, a2, a3, a4⟩ := hc 0 _ rfl
          rw [txtOf_nil] at a1
          simp only [Nat.zero_mul, Nat.add_zero] at a0 a1 a2 a3 a4
          clear hc hsg hdl hal
          go_wp2
          go_quiet (fail)
          go_wp2
          go_ret
          exact ⟨rfl, b14.os, b14.tape, b14.output, b14.size, b14.block⟩
      · have hp' : ((59 : Int) == a) = false := by simp; omega
        go_wp2
        exact ⟨⟨2, n, rfl, by omega, all_next hal rfl (fun e => hp e.symm), rfl⟩, by simp [intOf]⟩
    · have c0 := cl 2 _ rfl
      have c1 := ck 2 _ rfl
      clear cl ck
      by_cases hp : a = 44
      · subst hp
        have ets := hsg (by decide)
        rw [show sign 44 = 13 from rfl] at ets
        subst ets
        rcases t4 with ⟨h, _⟩ | ⟨g, off, cap, e, _, hc⟩
        · cases h
        · cases e
          obtain ⟨a0, a1, a2, a3, a4⟩ := hc 0 _ rfl
          rw [txtOf_nil] at a1
          simp only [Nat.zero_mul, Nat.add_zero] at a0 a1 a2 a3 a4
          clear hc hsg hdl hal
          go_wp2
          go_quiet (fail)
          go_wp2
          go_ret
          exact ⟨rfl, b14.os, b14.tape, b14.output, b14.size, b14.block⟩
      · have hp' : ((44 : Int) == a) = false := by simp; omega
        go_wp2
        exact ⟨⟨3, n, rfl, by omega, all_next hal rfl (fun e => hp e.symm), rfl⟩, by simp [intOf]⟩
    · have c0 := cl 3 _ rfl
      have c1 := ck 3 _ rfl
      clear cl ck
      by_cases hp : a = 123
      · subst hp
        have ets := hsg (by decide)
        rw [show sign 123 = 14 from rfl] at ets
        subst ets
        rcases t4 with ⟨h, _⟩ | ⟨g, off, cap, e, _, hc⟩
        · cases h
        · cases e
          obtain ⟨a0, a1, a2, a3, a4⟩ := hc 0 _ rfl
          rw [txtOf_nil] at a1
          simp only [Nat.zero_mul, Nat.add_zero] at a0 a1 a2 a3 a4
          clear hc hsg hdl hal
          go_wp2
          go_quiet (fail)
          go_wp2
          go_ret
          exact ⟨rfl, b14.os, b14.tape, b14.output, b14.size, b14.block⟩
      · have hp' : ((123 : Int) == a) = false := by simp; omega
        go_wp2
        exact ⟨⟨4, n, rfl, by omega, all_next hal rfl (fun e => hp e.symm), rfl⟩, by simp [intOf]⟩
    · have c0 := cl 4 _ rfl
      have c1 := ck 4 _ rfl
      clear cl ck
      by_cases hp : a = 125
      · subst hp
        have ets := hsg (by decide)
        rw [show sign 125 = 15 from rfl] at ets
        subst ets
        rcases t4 with ⟨h, _⟩ | ⟨g, off, cap, e, _, hc⟩
        · cases h
        · cases e
          obtain ⟨a0, a1, a2, a3, a4⟩ := hc 0 _ rfl
          rw [txtOf_nil] at a1
          simp only [Nat.zero_mul, Nat.add_zero] at a0 a1 a2 a3 a4
          clear hc hsg hdl hal
          go_wp2
          go_quiet (fail)
          go_wp2
          go_ret
          exact ⟨rfl, b14.os, b14.tape, b14.output, b14.size, b14.block⟩
      · have hp' : ((125 : Int) == a) = false := by simp; omega
        go_wp2
        exact ⟨⟨5, n, rfl, by omega, all_next hal rfl (fun e => hp e.symm), rfl⟩, by simp [intOf]⟩
    · have c0 := cl 5 _ rfl
      have c1 := ck 5 _ rfl
      clear cl ck
      by_cases hp : a = 40
      · subst hp
        have ets := hsg (by decide)
        rw [show sign 40 = 16 from rfl] at ets
        subst ets
        rcases t4 with ⟨h, _⟩ | ⟨g, off, cap, e, _, hc⟩
        · cases h
        · cases e
          obtain ⟨a0, a1, a2, a3, a4⟩ := hc 0 _ rfl
          rw [txtOf_nil] at a1
          simp only [Nat.zero_mul, Nat.add_zero] at a0 a1 a2 a3 a4
          clear hc hsg hdl hal
          go_wp2
          go_quiet (fail)
          go_wp2
          go_ret
          exact ⟨rfl, b14.os, b14.tape, b14.output, b14.size, b14.block⟩
      · have hp' : ((40 : Int) == a) = false := by simp; omega
        go_wp2
        exact ⟨⟨6, n, rfl, by omega, all_next hal rfl (fun e => hp e.symm), rfl⟩, by simp [intOf]⟩
    · have c0 := cl 6 _ rfl
      have c1 := ck 6 _ rfl
      clear cl ck
      by_cases hp : a = 41
      · subst hp
        have ets := hsg (by decide)
        rw [show sign 41 = 17 from rfl] at ets
        subst ets
        rcases t4 with ⟨h, _⟩ | ⟨g, off, cap, e, _, hc⟩
        · cases h
        · cases e
          obtain ⟨a0, a1, a2, a3, a4⟩ := hc 0 _ rfl
          rw [txtOf_nil] at a1
          simp only [Nat.zero_mul, Nat.add_zero] at a0 a1 a2 a3 a4
          clear hc hsg hdl hal
          go_wp2
          go_quiet (fail)
          go_wp2
          go_ret
          exact ⟨rfl, b14.os, b14.tape, b14.output, b14.size, b14.block⟩
      · have hp' : ((41 : Int) == a) = false := by simp; omega
        go_wp2
        exact ⟨⟨7, n, rfl, by omega, all_next hal rfl (fun e => hp e.symm), rfl⟩, by simp [intOf]⟩
    · have c0 := cl 7 _ rfl
      have c1 := ck 7 _ rfl
      clear cl ck
      by_cases hp : a = 91
      · subst hp
        have ets := hsg (by decide)
        rw [show sign 91 = 18 from rfl] at ets
        subst ets
        rcases t4 with ⟨h, _⟩ | ⟨g, off, cap, e, _, hc⟩
        · cases h
        · cases e
          obtain ⟨a0, a1, a2, a3, a4⟩ := hc 0 _ rfl
          rw [txtOf_nil] at a1
          simp only [Nat.zero_mul, Nat.add_zero] at a0 a1 a2 a3 a4
          clear hc hsg hdl hal
          go_wp2
          go_quiet (fail)
          go_wp2
          go_ret
          exact ⟨rfl, b14.os, b14.tape, b14.output, b14.size, b14.block⟩
      · have hp' : ((91 : Int) == a) = false := by simp; omega
        go_wp2
        exact ⟨⟨8, n, rfl, by omega, all_next hal rfl (fun e => hp e.symm), rfl⟩, by simp [intOf]⟩
    · have c0 := cl 8 _ rfl
      have c1 := ck 8 _ rfl
      clear cl ck
      by_cases hp : a = 93
      · subst hp
        have ets := hsg (by decide)
        rw [show sign 93 = 19 from rfl] at ets
        subst ets
        rcases t4 with ⟨h, _⟩ | ⟨g, off, cap, e, _, hc⟩
        · cases h
        · cases e
          obtain ⟨a0, a1, a2, a3, a4⟩ := hc 0 _ rfl
          rw [txtOf_nil] at a1
          simp only [Nat.zero_mul, Nat.add_zero] at a0 a1 a2 a3 a4
          clear hc hsg hdl hal
          go_wp2
          go_quiet (fail)
          go_wp2
          go_ret
          exact ⟨rfl, b14.os, b14.tape, b14.output, b14.size, b14.block⟩
      · have hp' : ((93 : Int) == a) = false := by simp; omega
        go_wp2
        exact ⟨⟨9, n, rfl, by omega, all_next hal rfl (fun e => hp e.symm), rfl⟩, by simp [intOf]⟩
    · clear cl ck
      have hs0 := sign_none hal
      clear hal hsg
      have hl2 : ((ts.length : Nat) : Int) ≤ 1 := by omega
      by_cases hd : isDelim a
      · have ets := hdl hd hs0
        subst ets
        rcases t4 with ⟨h, _⟩ | ⟨g, off, cap, e, _, hc⟩
        · cases h
        · cases e
          obtain ⟨a0, a1, a2, a3, a4⟩ := hc 0 _ rfl
          rw [txtOf_nil] at a1
          simp only [Nat.zero_mul, Nat.add_zero] at a0 a1 a2 a3 a4
          obtain ⟨d1, d2, d3, d4, d5, d6, d7, d8⟩ := hd
          have m3 : (a != 34) = true := by simpa using d3
          have m4 : (a != 39) = true := by simpa using d4
          have m5 : (a != 95) = true := by simpa using d5
          clear hc hdl hs0
          go_wp2
          all_goals (go_ret; exact ⟨rfl, b14.os, b14.tape, b14.output, b14.size, b14.block⟩)
      · have hcl : a ≤ 32 ∨ 127 ≤ a ∨ a = 34 ∨ a = 39 ∨ a = 95 ∨ (48 ≤ a ∧ a ≤ 57) ∨ (97 ≤ a ∧ a ≤ 122) ∨ (65 ≤ a ∧ a ≤ 90) := by unfold isDelim at hd; omega
        clear hd hdl hs0 t4
        rcases hcl with hh | hh | rfl | rfl | rfl | ⟨h1, h2⟩ | ⟨h1, h2⟩ | ⟨h1, h2⟩
        · go_wp2
          all_goals (go_ret; exact ⟨rfl, b14.os, b14.tape, b14.output, b14.size, b14.block⟩)
        · have g1 : 32 < a := by omega
          go_wp2
          all_goals (go_ret; exact ⟨rfl, b14.os, b14.tape, b14.output, b14.size, b14.block⟩)
        · go_wp2
          all_goals (go_ret; exact ⟨rfl, b14.os, b14.tape, b14.output, b14.size, b14.block⟩)
        · go_wp2
          all_goals (go_ret; exact ⟨rfl, b14.os, b14.tape, b14.output, b14.size, b14.block⟩)
        · go_wp2
          all_goals (go_ret; exact ⟨rfl, b14.os, b14.tape, b14.output, b14.size, b14.block⟩)
        all_goals
          have m3 : (a != 34) = true := by simp; omega
          have m4 : (a != 39) = true := by simp; omega
          have m5 : (a != 95) = true := by simp; omega
          have g1 : 32 < a := by omega
          have g2 : a < 127 := by omega
        · go_wp2
          all_goals (go_ret; exact ⟨rfl, b14.os, b14.tape, b14.output, b14.size, b14.block⟩)
        · have g3 : 57 < a := by omega
          go_wp2
          all_goals (go_ret; exact ⟨rfl, b14.os, b14.tape, b14.output, b14.size, b14.block⟩)
        · have g3 : 57 < a := by omega
          have g4 : a < 97 := by omega
          go_wp2
          all_goals (go_ret; exact ⟨rfl, b14.os, b14.tape, b14.output, b14.size, b14.block⟩)

theorem tokSigns_met (os : Os) : laidMet Tryd.prog Rows.tokSignsRow.laid ((laidIn (World.holding Tryd.prog os ⟨#[], #[], []⟩)).forCall (fun _ _ => 0) ⟨#[], #[.int .u8 0], []⟩).memory :=
  laidMet_of_run' 8 (by kernel_rfl) (by kernel_rfl)
theorem tokSigns_reads (os : Os) {H : Type} (enc : TypeId × Value → H) : ∃ places, DataW.whole enc Tryd.prog ((laidIn (World.holding Tryd.prog os ⟨#[], #[], []⟩)).forCall (fun _ _ => 0) ⟨#[], #[.int .u8 0], []⟩).memory Tryd.f4.params.toList Rows.tokSignsSpec.vars false (#[.int .u8 0] : Array Value).toList 8 = some ([.lit (.int .u8 0)], [], places) :=
  ⟨[], by kernel_rfl⟩

set_option maxRecDepth 100000 in
theorem tokSigns_lifted (os : Os) (started : os.Started) (H : Type) (enc : TypeId × Value → H) (F : Stop.Interp) :
    ReturnsInHanded {} Tryd.checked os 4 .any ((OpenSpec.ofChange Rows.tokSignsSpec).preRow enc Tryd.prog Tryd.f4 Rows.tokSignsRow.domain false Rows.tokSignsRow.laid) (((OpenSpec.ofChange Rows.tokSignsSpec).at F).post enc Tryd.prog Tryd.f4 false true false false) := by
  obtain ⟨places, hx⟩ := tokSigns_reads os enc
  refine returnsInHanded_of_row (C := Tryd.checked) (s := OpenSpec.ofChange Rows.tokSignsSpec) ownNone started (by kernel_rfl) Tryd.func4
    (witness_row_at (enc := enc) (C := Tryd.checked) false (laidIn (World.holding Tryd.prog os ⟨#[], #[], []⟩)) #[.int .u8 0] rfl (by kernel_rfl) (by kernel_rfl) (by kernel_rfl)
      (OpenSpec.preRow_of_cond 8 hx (by kernel_rfl) (fun k hk => by cases hk) (by kernel_rfl) (tokSigns_met os))) ?_
  intro W base args ds gs before hval hW _ _ _ hL hS _
  have hW' := hW
  obtain ⟨p, q, hA0, hV, rfl, hfz, hnd⟩ := hW
  have hA : DataW.TrodAll enc Tryd.prog W 0 (fun _ => true) true Tryd.f4.params.toList args.toList ds p := hA0
  rw [Tryd.params4] at hA hval
  obtain ⟨v0, vs0, d0, ds0, p0, q0, hargs, rfl, rfl, h0, r0⟩ := trodAll_cons hA
  obtain ⟨rfl, rfl, rfl⟩ := trodAll_nil r0
  obtain rfl : args = #[v0] := by cases args; simp_all
  obtain ⟨rfl, rfl⟩ := trodVars_none hV
  obtain ⟨a0, rfl, rfl, rfl, w0⟩ := open_int Tryd.underlying5 (hval 0 5 v0 rfl rfl) h0
  clear hA0
  refine (tokSigns_walk W (tabs_of_laid hL hS) a0 w0).mono fun e W' ⟨he, bel⟩ => ?_
  subst he
  exact ⟨_, rfl, _, _, _, [], _, [], hW', trodAll_mk1 (shut_bool Tryd.underlying4 _), (trodAll_cons_mk (shut_int Tryd.underlying5 w0) trodAll_mk0), rfl, bel.frame _, fun h => by cases h⟩

theorem tokSigns_said : Rows.TokSignsSaid :=
  OpenClaim.holds_of_cond 4 Tryd.f4 rfl rfl rfl rfl rfl rfl rfl ⟨rfl, rfl, rfl, rfl, rfl⟩ rfl rfl rfl rfl rfl (by kernel_rfl) Tryd.func4 (by kernel_rfl)
    (of_decide_eq_true (by kernel_rfl)) (by unfold Func.isWrapper; first | (rw [if_pos (by decide +kernel)]; kernel_rfl) | (rw [if_neg (by decide +kernel)]; exact ⟨rfl, rfl⟩))
    (fun os started H enc _ F => by rw [OpenClaim.pre_eq_preRow]; exact tokSigns_lifted os started H enc F)

theorem tokSigns_plain (f : FuncId) (fn : Func) (hf : Tryd.pinned.checked.prog.funcNamed "tapestrier/tapestrierlaw4.TokSigns" = some f) (hfn : Tryd.pinned.checked.prog.funcs[f]? = some fn) :
    false = Tryd.pinned.checked.prog.looks [] ∧ ∀ (j : Nat) t, fn.params[j]? = some t → Tryd.pinned.checked.prog.wantsStandIn t = false := by
  obtain rfl : f = 4 := Option.some.inj ((show Tryd.prog.funcNamed "tapestrier/tapestrierlaw4.TokSigns" = some 4 by kernel_rfl).symm.trans hf) |>.symm
  obtain rfl : fn = Tryd.f4 := (Option.some.inj (Tryd.func4.symm.trans hfn)).symm
  refine ⟨by kernel_rfl, fun j t ht => ?_⟩
  rw [Tryd.params4] at ht
  have hm : t ∈ [5] := by simpa using Array.mem_of_getElem? ht
  have hall : ([5].all fun u => !Tryd.prog.wantsStandIn u) = true := by kernel_rfl
  exact (show Tryd.prog.wantsStandIn t = false by simpa using List.all_eq_true.1 hall t hm)

theorem tokSigns_card : Rows.TokSignsCardSaid :=
  Claim7.holds_tied_plain_at .later [] _ _ _ _ tokSigns_said (fun _ h => by cases h) (by kernel_rfl) (fun _ h => by cases h) tokSigns_row_tie rfl ⟨rfl, rfl⟩ (by kernel_rfl) rfl tokSigns_plain (by kernel_rfl)
#print axioms tokSigns_card

end Go.Proofs.YtaecamnlimlpkabDoor
