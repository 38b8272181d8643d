/- Which integers are right code points (the document's own right), masks on integers, and plain facts on the decoder. -/
import Derived.Test.YtkhgmobependiaaDoorBsB
import Derived.Lib.RuneBytes
namespace Go.Proofs.YtkhgmobependiaaDoor
open Go Go.RowKit Go.Shelf
open Go.Lib (decodeN)

set_option maxHeartbeats 400000 in
theorem right_any (c : Int) (w : World) : Calls Tryd.prog 28 #[.int .i64 c] w fun e w' => e = .returned (.bool (rightB c)) ∧ w' = w := by
  by_cases h1 : 0 ≤ c
  · by_cases h2 : c ≤ 1114111
    · by_cases h3 : c < 55296
      · rw [rightB_true ⟨h1, h2, .inl h3⟩]
        go_enter Tryd.func28, Tryd.ntmps28
        go_wp2
        go_ret
        exact ⟨rfl, rfl⟩
      · by_cases h4 : 57343 < c
        · rw [rightB_true ⟨h1, h2, .inr h4⟩]
          go_enter Tryd.func28, Tryd.ntmps28
          go_wp2
          go_ret
          exact ⟨rfl, rfl⟩
        · rw [rightB_false (by omega)]
          go_enter Tryd.func28, Tryd.ntmps28
          go_wp2
          go_ret
          exact ⟨rfl, rfl⟩
    · rw [rightB_false (by omega)]
      go_enter Tryd.func28, Tryd.ntmps28
      go_wp2
      go_ret
      exact ⟨rfl, rfl⟩
  · rw [rightB_false (by omega)]
    go_enter Tryd.func28, Tryd.ntmps28
    go_wp2
    go_ret
    exact ⟨rfl, rfl⟩

theorem ret_dec {n b0 b1 b2 b3 : Nat} {a k : Int} {p : Nat × Nat} (h : Hid (decodeN n b0 b1 b2 b3 = p)) (ha : a = (p.1 : Int)) (hk : k = (p.2 : Int)) :
    Ending.returned (.tuple #[.int .i64 a, .int .i64 k]) = .returned (.tuple #[.int .i64 (decodeN n b0 b1 b2 b3).1, .int .i64 (decodeN n b0 b1 b2 b3).2]) := by
  rw [show decodeN n b0 b1 b2 b3 = p from h, ha, hk]
theorem i64_mask (i m : Nat) (hi : m + 1 = 2 ^ i) (hs : i < 8) (n : Int) : bits .and .i64 n m = n % (m + 1 : Nat) := by
  have hm : (BitVec.ofInt 64 (m : Int)).toNat = 2 ^ i - 1 := by
    rw [BitVec.toNat_ofInt]
    have : 2 ^ i ≤ 2 ^ 7 := Nat.pow_le_pow_right (by decide) (by omega)
    omega
  have key : (BitVec.ofInt 64 n &&& BitVec.ofInt 64 (m : Int)).toNat = (n % ((2 ^ 64 : Nat) : Int)).toNat % 2 ^ i := by
    rw [BitVec.toNat_and, BitVec.toNat_ofInt, hm, Nat.and_two_pow_sub_one_eq_mod]
  show IntKind.i64.wrap ((BitVec.ofInt 64 n &&& BitVec.ofInt 64 (m : Int)).toNat : Nat) = _
  rw [key, IntKind.wrap_i64, hi]
  have : i = 0 ∨ i = 1 ∨ i = 2 ∨ i = 3 ∨ i = 4 ∨ i = 5 ∨ i = 6 ∨ i = 7 := by omega
  rcases this with rfl | rfl | rfl | rfl | rfl | rfl | rfl | rfl <;> simp only [Nat.reducePow] <;> omega
theorem i64_and7 (n : Int) : bits .and .i64 n 7 = n % 8 := i64_mask 3 7 rfl (by decide) n
theorem i64_and15 (n : Int) : bits .and .i64 n 15 = n % 16 := i64_mask 4 15 rfl (by decide) n
theorem i64_and31 (n : Int) : bits .and .i64 n 31 = n % 32 := i64_mask 5 31 rfl (by decide) n
theorem i64_and63 (n : Int) : bits .and .i64 n 63 = n % 64 := i64_mask 6 63 rfl (by decide) n

theorem dn2_short (n b0 b1 b2 b3 : Nat) (x1 : 194 ≤ b0) (x2 : b0 < 224) (h : n < 2) : decodeN n b0 b1 b2 b3 = (65533, 1) := by
  unfold decodeN
  repeat' split
  all_goals first | rfl | (exfalso; omega)
theorem dn2_bad1 (n b0 b1 b2 b3 : Nat) (x1 : 194 ≤ b0) (x2 : b0 < 224) (_l1 : b1 < 256) (_l2 : b2 < 256) (_l3 : b3 < 256) (h : ¬ (128 ≤ b1 ∧ b1 ≤ 191)) : decodeN n b0 b1 b2 b3 = (65533, 1) := by
  unfold decodeN
  repeat' split
  all_goals first | rfl | (exfalso; omega)
theorem dn2_end (n b0 b1 b2 b3 : Nat) (x1 : 194 ≤ b0) (x2 : b0 < 224) (_l1 : b1 < 256) (_l2 : b2 < 256) (_l3 : b3 < 256) (hn : 2 ≤ n) (k1 : (128 ≤ b1 ∧ b1 ≤ 191)) : decodeN n b0 b1 b2 b3 = if (b0 % 32) * 64 + b1 % 64 < 128 ∨ rightB (((b0 % 32) * 64 + b1 % 64 : Nat) : Int) = false then (65533, 1) else ((b0 % 32) * 64 + b1 % 64, 2) := by
  by_cases hr : 0 ≤ (((b0 % 32) * 64 + b1 % 64 : Nat) : Int) ∧ (((b0 % 32) * 64 + b1 % 64 : Nat) : Int) ≤ 1114111 ∧ ((((b0 % 32) * 64 + b1 % 64 : Nat) : Int) < 55296 ∨ 57343 < (((b0 % 32) * 64 + b1 % 64 : Nat) : Int))
  · rw [rightB_true hr]
    unfold decodeN
    repeat' split
    all_goals first | rfl | (exfalso; omega) | (simp at * <;> omega)
  · rw [rightB_false hr]
    unfold decodeN
    repeat' split
    all_goals first | rfl | (exfalso; omega) | (simp at * <;> omega)
theorem dn3_short (n b0 b1 b2 b3 : Nat) (x1 : 224 ≤ b0) (x2 : b0 < 240) (h : n < 3) : decodeN n b0 b1 b2 b3 = (65533, 1) := by
  unfold decodeN
  repeat' split
  all_goals first | rfl | (exfalso; omega)
theorem dn3_bad1 (n b0 b1 b2 b3 : Nat) (x1 : 224 ≤ b0) (x2 : b0 < 240) (_l1 : b1 < 256) (_l2 : b2 < 256) (_l3 : b3 < 256) (h : ¬ (128 ≤ b1 ∧ b1 ≤ 191)) : decodeN n b0 b1 b2 b3 = (65533, 1) := by
  unfold decodeN
  repeat' split
  all_goals first | rfl | (exfalso; omega)
theorem dn3_bad2 (n b0 b1 b2 b3 : Nat) (x1 : 224 ≤ b0) (x2 : b0 < 240) (_l1 : b1 < 256) (_l2 : b2 < 256) (_l3 : b3 < 256) (h : ¬ (128 ≤ b2 ∧ b2 ≤ 191)) : decodeN n b0 b1 b2 b3 = (65533, 1) := by
  unfold decodeN
  repeat' split
  all_goals first | rfl | (exfalso; omega)
theorem dn3_end (n b0 b1 b2 b3 : Nat) (x1 : 224 ≤ b0) (x2 : b0 < 240) (_l1 : b1 < 256) (_l2 : b2 < 256) (_l3 : b3 < 256) (hn : 3 ≤ n) (k1 : (128 ≤ b1 ∧ b1 ≤ 191)) (k2 : (128 ≤ b2 ∧ b2 ≤ 191)) : decodeN n b0 b1 b2 b3 = if ((b0 % 16) * 64 + b1 % 64) * 64 + b2 % 64 < 2048 ∨ rightB ((((b0 % 16) * 64 + b1 % 64) * 64 + b2 % 64 : Nat) : Int) = false then (65533, 1) else (((b0 % 16) * 64 + b1 % 64) * 64 + b2 % 64, 3) := by
  by_cases hr : 0 ≤ ((((b0 % 16) * 64 + b1 % 64) * 64 + b2 % 64 : Nat) : Int) ∧ ((((b0 % 16) * 64 + b1 % 64) * 64 + b2 % 64 : Nat) : Int) ≤ 1114111 ∧ (((((b0 % 16) * 64 + b1 % 64) * 64 + b2 % 64 : Nat) : Int) < 55296 ∨ 57343 < ((((b0 % 16) * 64 + b1 % 64) * 64 + b2 % 64 : Nat) : Int))
  · rw [rightB_true hr]
    unfold decodeN
    repeat' split
    all_goals first | rfl | (exfalso; omega) | (simp at * <;> omega)
  · rw [rightB_false hr]
    unfold decodeN
    repeat' split
    all_goals first | rfl | (exfalso; omega) | (simp at * <;> omega)
theorem dn4_short (n b0 b1 b2 b3 : Nat) (x1 : 240 ≤ b0) (x2 : b0 < 245) (h : n < 4) : decodeN n b0 b1 b2 b3 = (65533, 1) := by
  unfold decodeN
  repeat' split
  all_goals first | rfl | (exfalso; omega)
theorem dn4_bad1 (n b0 b1 b2 b3 : Nat) (x1 : 240 ≤ b0) (x2 : b0 < 245) (_l1 : b1 < 256) (_l2 : b2 < 256) (_l3 : b3 < 256) (h : ¬ (128 ≤ b1 ∧ b1 ≤ 191)) : decodeN n b0 b1 b2 b3 = (65533, 1) := by
  unfold decodeN
  repeat' split
  all_goals first | rfl | (exfalso; omega)
theorem dn4_bad2 (n b0 b1 b2 b3 : Nat) (x1 : 240 ≤ b0) (x2 : b0 < 245) (_l1 : b1 < 256) (_l2 : b2 < 256) (_l3 : b3 < 256) (h : ¬ (128 ≤ b2 ∧ b2 ≤ 191)) : decodeN n b0 b1 b2 b3 = (65533, 1) := by
  unfold decodeN
  repeat' split
  all_goals first | rfl | (exfalso; omega)
theorem dn4_bad3 (n b0 b1 b2 b3 : Nat) (x1 : 240 ≤ b0) (x2 : b0 < 245) (_l1 : b1 < 256) (_l2 : b2 < 256) (_l3 : b3 < 256) (h : ¬ (128 ≤ b3 ∧ b3 ≤ 191)) : decodeN n b0 b1 b2 b3 = (65533, 1) := by
  unfold decodeN
  repeat' split
  all_goals first | rfl | (exfalso; omega)
theorem dn4_end (n b0 b1 b2 b3 : Nat) (x1 : 240 ≤ b0) (x2 : b0 < 245) (_l1 : b1 < 256) (_l2 : b2 < 256) (_l3 : b3 < 256) (hn : 4 ≤ n) (k1 : (128 ≤ b1 ∧ b1 ≤ 191)) (k2 : (128 ≤ b2 ∧ b2 ≤ 191)) (k3 : (128 ≤ b3 ∧ b3 ≤ 191)) : decodeN n b0 b1 b2 b3 = if (((b0 % 8) * 64 + b1 % 64) * 64 + b2 % 64) * 64 + b3 % 64 < 65536 ∨ rightB (((((b0 % 8) * 64 + b1 % 64) * 64 + b2 % 64) * 64 + b3 % 64 : Nat) : Int) = false then (65533, 1) else ((((b0 % 8) * 64 + b1 % 64) * 64 + b2 % 64) * 64 + b3 % 64, 4) := by
  by_cases hr : 0 ≤ (((((b0 % 8) * 64 + b1 % 64) * 64 + b2 % 64) * 64 + b3 % 64 : Nat) : Int) ∧ (((((b0 % 8) * 64 + b1 % 64) * 64 + b2 % 64) * 64 + b3 % 64 : Nat) : Int) ≤ 1114111 ∧ ((((((b0 % 8) * 64 + b1 % 64) * 64 + b2 % 64) * 64 + b3 % 64 : Nat) : Int) < 55296 ∨ 57343 < (((((b0 % 8) * 64 + b1 % 64) * 64 + b2 % 64) * 64 + b3 % 64 : Nat) : Int))
  · rw [rightB_true hr]
    unfold decodeN
    repeat' split
    all_goals first | rfl | (exfalso; omega) | (simp at * <;> omega)
  · rw [rightB_false hr]
    unfold decodeN
    repeat' split
    all_goals first | rfl | (exfalso; omega) | (simp at * <;> omega)

end Go.Proofs.YtkhgmobependiaaDoor

/- The bytes of code points: text.Bytes and the document's own Bytes, at every list of integers that is not too long: one list of bytes. -/
namespace Go.Proofs.YtkhgmobependiaaDoor
open Go Go.RowKit Go.Shelf

theorem infoByte : (Tryd.prog.info? 5).map (fun i => (i.zero, i.size, i.bytes)) = some (some (.int .u8 0), 1, 1) := by kernel_rfl

theorem cells_new (w : World) (l : List Value) (ty : TypeId) : ∀ j u, l[j]? = some u → (w.alloc (.cells l.toArray ty)).cell? ((⟨w.heap.size, 0, none⟩ : Addr).add j) = some u := fun j u hj => by
  rw [show (⟨w.heap.size, 0, none⟩ : Addr).add j = ⟨w.heap.size, j, none⟩ from by
    cases j with
    | zero => rfl
    | succ j => simp [Addr.add]]
  rw [cell_of_block (World.alloc_heap_new w _) j]
  simpa using hj

theorem wraps_i64 (n : Int) (h₀ : 0 ≤ n) (h₁ : n < 2 ^ 63) : IntKind.i64.wrap n = n := by rw [IntKind.wrap_i64]; omega
theorem or128 {y : Int} (h0 : 0 ≤ y) (h1 : y < 64) : bits .or .i64 128 y % 256 = 128 + y := by
  rw [bits_join .i64 63 (by decide) wraps_i64 6 128 y (by decide) (by decide) (by decide) h0 (by omega) (by omega)]
  omega
theorem or192 {y : Int} (h0 : 0 ≤ y) (h1 : y < 64) : bits .or .i64 192 y % 256 = 192 + y := by
  rw [bits_join .i64 63 (by decide) wraps_i64 6 192 y (by decide) (by decide) (by decide) h0 (by omega) (by omega)]
  omega
theorem or224 {y : Int} (h0 : 0 ≤ y) (h1 : y < 32) : bits .or .i64 224 y % 256 = 224 + y := by
  rw [bits_join .i64 63 (by decide) wraps_i64 5 224 y (by decide) (by decide) (by decide) h0 (by omega) (by omega)]
  omega
theorem or240 {y : Int} (h0 : 0 ≤ y) (h1 : y < 16) : bits .or .i64 240 y % 256 = 240 + y := by
  rw [bits_join .i64 63 (by decide) wraps_i64 4 240 y (by decide) (by decide) (by decide) h0 (by omega) (by omega)]
  omega

set_option maxRecDepth 100000 in
set_option maxHeartbeats 2000000 in
theorem put_one (B : Nat) (v : Value) (n : Nat) (xs : List Value) (c : Int) (w : World) (hown : w.ownsRow B 5 1 v n xs) (hlen : n + 4 ≤ 140737488355328) (hBw : B ≤ w.heap.size) (h1 : 0 ≤ c) (h2 : c < 128) :
    Calls Tryd.prog 32 #[v, .int .i64 c] w fun e w' => ∃ v', e = .returned v' ∧ w'.ownsRow B 5 1 v' (n + (Lib.runeCells (fixC c)).length) (xs ++ Lib.runeCells (fixC c)) ∧ ∃ o, (w.alloc o).grownBy w' v.ownBlock := by
  obtain ⟨i0, hi, hz0, hz1, hz2⟩ := info_parts infoByte
  have hb : rightB c = true := rightB_true (by omega)
  have HC : Hid (Lib.runeCells (fixC c) = [.int .u8 (c)]) := by
    rw [fixC_yes hb]
    show _ = _
    unfold Lib.runeCells
    rw [Lib.encodeRuneZ_one (by omega) (by omega)]
    rfl
  have m63 := i64_and63
  go_enter Tryd.func32, Tryd.ntmps32
  go_wp2_with (first
    | (go_at_call 28; refine (right_any _ _).mono ?_; rintro e w2 ⟨rfl, rfl⟩)
    | (at_builtin; refine wpList_append_own _ rfl _ _ 48 rfl B 5 i0 (.int .u8 0) 1 1 Tryd.underlying48 hi hz0 hz1 hz2 rfl (by decide) _ _ _ rfl (hown.alloc _) ⟨w2.heap.size, 0, none⟩ 1 1 [.int .u8 (c)] rfl rfl (cells_new _ [.int .u8 (c)] _) (fun x hx => by simp at hx; rcases hx with rfl <;> rfl) (by unfold maxLen; omega) (by omega) (by simp; omega) ?_; intro v' w3 hown' hgrow3 hnil3))
  go_ret
  rw [show Lib.runeCells (fixC c) = _ from HC]
  exact ⟨_, rfl, hown', _, hgrow3⟩

set_option maxRecDepth 100000 in
set_option maxHeartbeats 2000000 in
theorem put_two (B : Nat) (v : Value) (n : Nat) (xs : List Value) (c : Int) (w : World) (hown : w.ownsRow B 5 1 v n xs) (hlen : n + 4 ≤ 140737488355328) (hBw : B ≤ w.heap.size) (h1 : 128 ≤ c) (h2 : c < 2048) :
    Calls Tryd.prog 32 #[v, .int .i64 c] w fun e w' => ∃ v', e = .returned v' ∧ w'.ownsRow B 5 1 v' (n + (Lib.runeCells (fixC c)).length) (xs ++ Lib.runeCells (fixC c)) ∧ ∃ o, (w.alloc o).grownBy w' v.ownBlock := by
  obtain ⟨i0, hi, hz0, hz1, hz2⟩ := info_parts infoByte
  have hb : rightB c = true := rightB_true (by omega)
  have HC : Hid (Lib.runeCells (fixC c) = [.int .u8 (192 + c / 64), .int .u8 (128 + c % 64)]) := by
    rw [fixC_yes hb]
    show _ = _
    unfold Lib.runeCells
    rw [Lib.encodeRuneZ_two (by omega) (by omega)]
    rfl
  have g0 : ¬ c < 128 := by omega
  have m63 := i64_and63
  have o0 := or192 (y := c / 64) (by omega) (by omega)
  have o1 := or128 (y := c % 64) (by omega) (by omega)
  go_enter Tryd.func32, Tryd.ntmps32
  go_wp2_with (first
    | (go_at_call 28; refine (right_any _ _).mono ?_; rintro e w2 ⟨rfl, rfl⟩)
    | (at_builtin; refine wpList_append_own _ rfl _ _ 48 rfl B 5 i0 (.int .u8 0) 1 1 Tryd.underlying48 hi hz0 hz1 hz2 rfl (by decide) _ _ _ rfl (hown.alloc _) ⟨w2.heap.size, 0, none⟩ 2 2 [.int .u8 (192 + c / 64), .int .u8 (128 + c % 64)] rfl rfl (cells_new _ [.int .u8 (192 + c / 64), .int .u8 (128 + c % 64)] _) (fun x hx => by simp at hx; rcases hx with rfl | rfl <;> rfl) (by unfold maxLen; omega) (by omega) (by simp; omega) ?_; intro v' w3 hown' hgrow3 hnil3))
  go_ret
  rw [show Lib.runeCells (fixC c) = _ from HC]
  exact ⟨_, rfl, hown', _, hgrow3⟩

set_option maxRecDepth 100000 in
set_option maxHeartbeats 2000000 in
theorem put_three (B : Nat) (v : Value) (n : Nat) (xs : List Value) (c : Int) (w : World) (hown : w.ownsRow B 5 1 v n xs) (hlen : n + 4 ≤ 140737488355328) (hBw : B ≤ w.heap.size) (h1 : 2048 ≤ c) (h2 : c < 65536) (h3 : c < 55296 ∨ 57343 < c) :
    Calls Tryd.prog 32 #[v, .int .i64 c] w fun e w' => ∃ v', e = .returned v' ∧ w'.ownsRow B 5 1 v' (n + (Lib.runeCells (fixC c)).length) (xs ++ Lib.runeCells (fixC c)) ∧ ∃ o, (w.alloc o).grownBy w' v.ownBlock := by
  obtain ⟨i0, hi, hz0, hz1, hz2⟩ := info_parts infoByte
  have hb : rightB c = true := rightB_true (by omega)
  have HC : Hid (Lib.runeCells (fixC c) = [.int .u8 (224 + c / 4096), .int .u8 (128 + c / 64 % 64), .int .u8 (128 + c % 64)]) := by
    rw [fixC_yes hb]
    show _ = _
    unfold Lib.runeCells
    rw [Lib.encodeRuneZ_three (by omega)]
    rfl
  have g0 : ¬ c < 128 := by omega
  have g1 : ¬ c < 2048 := by omega
  have m63 := i64_and63
  have o0 := or224 (y := c / 4096) (by omega) (by omega)
  have o1 := or128 (y := c / 64 % 64) (by omega) (by omega)
  have o2 := or128 (y := c % 64) (by omega) (by omega)
  go_enter Tryd.func32, Tryd.ntmps32
  go_wp2_with (first
    | (go_at_call 28; refine (right_any _ _).mono ?_; rintro e w2 ⟨rfl, rfl⟩)
    | (at_builtin; refine wpList_append_own _ rfl _ _ 48 rfl B 5 i0 (.int .u8 0) 1 1 Tryd.underlying48 hi hz0 hz1 hz2 rfl (by decide) _ _ _ rfl (hown.alloc _) ⟨w2.heap.size, 0, none⟩ 3 3 [.int .u8 (224 + c / 4096), .int .u8 (128 + c / 64 % 64), .int .u8 (128 + c % 64)] rfl rfl (cells_new _ [.int .u8 (224 + c / 4096), .int .u8 (128 + c / 64 % 64), .int .u8 (128 + c % 64)] _) (fun x hx => by simp at hx; rcases hx with rfl | rfl | rfl <;> rfl) (by unfold maxLen; omega) (by omega) (by simp; omega) ?_; intro v' w3 hown' hgrow3 hnil3))
  go_ret
  rw [show Lib.runeCells (fixC c) = _ from HC]
  exact ⟨_, rfl, hown', _, hgrow3⟩

set_option maxRecDepth 100000 in
set_option maxHeartbeats 2000000 in
theorem put_four (B : Nat) (v : Value) (n : Nat) (xs : List Value) (c : Int) (w : World) (hown : w.ownsRow B 5 1 v n xs) (hlen : n + 4 ≤ 140737488355328) (hBw : B ≤ w.heap.size) (h1 : 65536 ≤ c) (h2 : c ≤ 1114111) :
    Calls Tryd.prog 32 #[v, .int .i64 c] w fun e w' => ∃ v', e = .returned v' ∧ w'.ownsRow B 5 1 v' (n + (Lib.runeCells (fixC c)).length) (xs ++ Lib.runeCells (fixC c)) ∧ ∃ o, (w.alloc o).grownBy w' v.ownBlock := by
  obtain ⟨i0, hi, hz0, hz1, hz2⟩ := info_parts infoByte
  have hb : rightB c = true := rightB_true (by omega)
  have HC : Hid (Lib.runeCells (fixC c) = [.int .u8 (240 + c / 262144), .int .u8 (128 + c / 4096 % 64), .int .u8 (128 + c / 64 % 64), .int .u8 (128 + c % 64)]) := by
    rw [fixC_yes hb]
    show _ = _
    unfold Lib.runeCells
    rw [Lib.encodeRuneZ_four (by omega) (by omega)]
    rfl
  have g0 : ¬ c < 128 := by omega
  have g1 : ¬ c < 2048 := by omega
  have g2 : ¬ c < 65536 := by omega
  have m63 := i64_and63
  have o0 := or240 (y := c / 262144) (by omega) (by omega)
  have o1 := or128 (y := c / 4096 % 64) (by omega) (by omega)
  have o2 := or128 (y := c / 64 % 64) (by omega) (by omega)
  have o3 := or128 (y := c % 64) (by omega) (by omega)
  go_enter Tryd.func32, Tryd.ntmps32
  go_wp2_with (first
    | (go_at_call 28; refine (right_any _ _).mono ?_; rintro e w2 ⟨rfl, rfl⟩)
    | (at_builtin; refine wpList_append_own _ rfl _ _ 48 rfl B 5 i0 (.int .u8 0) 1 1 Tryd.underlying48 hi hz0 hz1 hz2 rfl (by decide) _ _ _ rfl (hown.alloc _) ⟨w2.heap.size, 0, none⟩ 4 4 [.int .u8 (240 + c / 262144), .int .u8 (128 + c / 4096 % 64), .int .u8 (128 + c / 64 % 64), .int .u8 (128 + c % 64)] rfl rfl (cells_new _ [.int .u8 (240 + c / 262144), .int .u8 (128 + c / 4096 % 64), .int .u8 (128 + c / 64 % 64), .int .u8 (128 + c % 64)] _) (fun x hx => by simp at hx; rcases hx with rfl | rfl | rfl | rfl <;> rfl) (by unfold maxLen; omega) (by omega) (by simp; omega) ?_; intro v' w3 hown' hgrow3 hnil3))
  go_ret
  rw [show Lib.runeCells (fixC c) = _ from HC]
  exact ⟨_, rfl, hown', _, hgrow3⟩

set_option maxRecDepth 100000 in
set_option maxHeartbeats 2000000 in
theorem put_bad (B : Nat) (v : Value) (n : Nat) (xs : List Value) (c : Int) (w : World) (hown : w.ownsRow B 5 1 v n xs) (hlen : n + 4 ≤ 140737488355328) (hBw : B ≤ w.heap.size) (h1 : rightB c = false) :
    Calls Tryd.prog 32 #[v, .int .i64 c] w fun e w' => ∃ v', e = .returned v' ∧ w'.ownsRow B 5 1 v' (n + (Lib.runeCells (fixC c)).length) (xs ++ Lib.runeCells (fixC c)) ∧ ∃ o, (w.alloc o).grownBy w' v.ownBlock := by
  obtain ⟨i0, hi, hz0, hz1, hz2⟩ := info_parts infoByte
  have hb : rightB c = false := h1
  have HC : Hid (Lib.runeCells (fixC c) = [.int .u8 (239), .int .u8 (191), .int .u8 (189)]) := by
    rw [fixC_no hb]
    show _ = _
    unfold Lib.runeCells
    rw [Lib.encodeRuneZ_three (by omega)]
    rfl
  have m63 := i64_and63
  have o0 := or224 (y := 15) (by omega) (by omega)
  have o1 := or128 (y := 63) (by omega) (by omega)
  have o2 := or128 (y := 61) (by omega) (by omega)
  go_enter Tryd.func32, Tryd.ntmps32
  go_wp2_with (first
    | (go_at_call 28; refine (right_any _ _).mono ?_; rintro e w2 ⟨rfl, rfl⟩)
    | (at_builtin; refine wpList_append_own _ rfl _ _ 48 rfl B 5 i0 (.int .u8 0) 1 1 Tryd.underlying48 hi hz0 hz1 hz2 rfl (by decide) _ _ _ rfl (hown.alloc _) ⟨w2.heap.size, 0, none⟩ 3 3 [.int .u8 (239), .int .u8 (191), .int .u8 (189)] rfl rfl (cells_new _ [.int .u8 (239), .int .u8 (191), .int .u8 (189)] _) (fun x hx => by simp at hx; rcases hx with rfl | rfl | rfl <;> rfl) (by unfold maxLen; omega) (by omega) (by simp; omega) ?_; intro v' w3 hown' hgrow3 hnil3))
  go_ret
  rw [show Lib.runeCells (fixC c) = _ from HC]
  exact ⟨_, rfl, hown', _, hgrow3⟩

theorem put_any (B : Nat) (v : Value) (n : Nat) (xs : List Value) (c : Int) (w : World) (hown : w.ownsRow B 5 1 v n xs) (hlen : n + 4 ≤ 140737488355328) (hBw : B ≤ w.heap.size) :
    Calls Tryd.prog 32 #[v, .int .i64 c] w fun e w' => ∃ v', e = .returned v' ∧ w'.ownsRow B 5 1 v' (n + (Lib.runeCells (fixC c)).length) (xs ++ Lib.runeCells (fixC c)) ∧ ∃ o, (w.alloc o).grownBy w' v.ownBlock := by
  cases hb : rightB c
  · exact put_bad B v n xs c w hown hlen hBw hb
  · obtain ⟨h0, h1, h2⟩ := rightB_iff.1 hb
    by_cases g1 : c < 128
    · exact put_one B v n xs c w hown hlen hBw h0 g1
    · by_cases g2 : c < 2048
      · exact put_two B v n xs c w hown hlen hBw (by omega) g2
      · by_cases g3 : c < 65536
        · exact put_three B v n xs c w hown hlen hBw (by omega) g3 h2
        · exact put_four B v n xs c w hown hlen hBw (by omega) h1

/-! ### The bytes of a list -/
def ubytes (l : List UInt8) : List Value := l.map fun u => Value.int .u8 u.toNat
def enc1 (c : Int) : List UInt8 := Lib.encodeRune (fixC c)
def encs (l : List Int) : List UInt8 := l.flatMap enc1
theorem ubytes_enc1 (c : Int) : ubytes (enc1 c) = Lib.runeCells (fixC c) := by
  rw [← Lib.byteCells_encodeRune]
  rfl
theorem enc1_len (c : Int) : 1 ≤ (enc1 c).length ∧ (enc1 c).length ≤ 4 := by
  unfold enc1
  rw [← Lib.runeCells_length]
  exact Lib.runeCells_le _
theorem encs_snoc (l : List Int) (c : Int) : encs (l ++ [c]) = encs l ++ enc1 c := by simp [encs]
theorem encs_len (l : List Int) : (encs l).length ≤ 4 * l.length := by
  induction l with
  | nil => simp [encs]
  | cons c t ih =>
    have := enc1_len c
    have e : encs (c :: t) = enc1 c ++ encs t := by simp [encs]
    rw [e]
    simp
    omega
theorem ubytes_append (a b : List UInt8) : ubytes (a ++ b) = ubytes a ++ ubytes b := by simp [ubytes]
theorem ubytes_length (a : List UInt8) : (ubytes a).length = a.length := by simp [ubytes]

/-- A row that the call owns holds its bytes. -/
theorem BytesAt.of_owns {X : World} {b : Nat} {e : TypeId} {v : Value} {l : List UInt8} {m : Nat} (h : X.ownsRow b e 1 v m (ubytes l)) (hm : m = l.length) : BytesAt X.heap.size X v l := by
  subst hm
  rcases owns_cells h with ⟨rfl, h2, h3⟩ | ⟨g, cap, rfl, h1, h2, h3, h4, h5⟩
  · exact .inl ⟨List.length_eq_zero_iff.1 h2, .inl rfl⟩
  · exact .inr ⟨g, 0, cap, rfl, h1, h2, h4, fun j u hj => h5 j _ (by unfold ubytes; rw [List.getElem?_map, hj]; rfl)⟩

theorem below_grown {w X Y : World} {e : TypeId} {size : Nat} {v : Value} {k : Nat} {xs : List Value} {o : Obj} (hb : Below w.heap.size w X) (hrow : X.ownsRow w.heap.size e size v k xs) (hg : (X.alloc o).grownBy Y v.ownBlock) : Below w.heap.size w Y :=
  (hb.alloc hb.size o).grown hg (by have := hb.size; simp; omega) (fun j ej => (hrow.lt j ej).1)

end Go.Proofs.YtkhgmobependiaaDoor
