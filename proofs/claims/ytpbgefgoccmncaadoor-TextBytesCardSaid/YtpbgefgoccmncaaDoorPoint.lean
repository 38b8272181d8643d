/- The document's own point: the code point at the head of a slice of bytes, and its width: it is what the library's decoder tells. -/
import Derived.Test.YtpbgefgoccmncaaDoorSame
namespace Go.Proofs.YtpbgefgoccmncaaDoor
open Go Go.RowKit Go.Shelf
open Go.Lib (decodeN)

def rightB (c : Int) : Bool := decide (0 ≤ c ∧ c ≤ 1114111 ∧ (c < 55296 ∨ 57343 < c))
theorem rightB_true {c : Int} (h : 0 ≤ c ∧ c ≤ 1114111 ∧ (c < 55296 ∨ 57343 < c)) : rightB c = true := decide_eq_true h
theorem rightB_false {c : Int} (h : ¬ (0 ≤ c ∧ c ≤ 1114111 ∧ (c < 55296 ∨ 57343 < c))) : rightB c = false := decide_eq_false h

set_option maxHeartbeats 400000 in
theorem right_any (c : Int) (w : World) : Calls Tryd.prog 28 #[.int .i64 c] w fun e w' => e = .returned (.bool (rightB c)) ∧ w' = w := by
  by_cases h1 : 0 ≤ c
  · by_cases h2 : c ≤ 1114111
    · by_cases h3 : c < 55296
      · rw [rightB_true ⟨h1, h2, .inl h3⟩]
        go_enter Tryd.func28, Tryd.ntmps28
        go_wp2
        go_ret
        exact ⟨rfl, rfl⟩
      · by_cases h4 : 57343 < c
        · rw [rightB_true ⟨h1, h2, .inr h4⟩]
          go_enter Tryd.func28, Tryd.ntmps28
          go_wp2
          go_ret
          exact ⟨rfl, rfl⟩
        · rw [rightB_false (by omega)]
          go_enter Tryd.func28, Tryd.ntmps28
          go_wp2
          go_ret
          exact ⟨rfl, rfl⟩
    · rw [rightB_false (by omega)]
      go_enter Tryd.func28, Tryd.ntmps28
      go_wp2
      go_ret
      exact ⟨rfl, rfl⟩
  · rw [rightB_false (by omega)]
    go_enter Tryd.func28, Tryd.ntmps28
    go_wp2
    go_ret
    exact ⟨rfl, rfl⟩

theorem ret_dec {n b0 b1 b2 b3 : Nat} {a k : Int} {p : Nat × Nat} (h : Hid (decodeN n b0 b1 b2 b3 = p)) (ha : a = (p.1 : Int)) (hk : k = (p.2 : Int)) :
    Ending.returned (.tuple #[.int .i64 a, .int .i64 k]) = .returned (.tuple #[.int .i64 (decodeN n b0 b1 b2 b3).1, .int .i64 (decodeN n b0 b1 b2 b3).2]) := by
  rw [show decodeN n b0 b1 b2 b3 = p from h, ha, hk]
theorem i64_mask (i m : Nat) (hi : m + 1 = 2 ^ i) (hs : i < 8) (n : Int) : bits .and .i64 n m = n % (m + 1 : Nat) := by
  have hm : (BitVec.ofInt 64 (m : Int)).toNat = 2 ^ i - 1 := by
    rw [BitVec.toNat_ofInt]
    have : 2 ^ i ≤ 2 ^ 7 := Nat.pow_le_pow_right (by decide) (by omega)
    omega
  have key : (BitVec.ofInt 64 n &&& BitVec.ofInt 64 (m : Int)).toNat = (n % ((2 ^ 64 : Nat) : Int)).toNat % 2 ^ i := by
    rw [BitVec.toNat_and, BitVec.toNat_ofInt, hm, Nat.and_two_pow_sub_one_eq_mod]
  show IntKind.i64.wrap ((BitVec.ofInt 64 n &&& BitVec.ofInt 64 (m : Int)).toNat : Nat) = _
  rw [key, IntKind.wrap_i64, hi]
  have : i = 0 ∨ i = 1 ∨ i = 2 ∨ i = 3 ∨ i = 4 ∨ i = 5 ∨ i = 6 ∨ i = 7 := by omega
  rcases this with rfl | rfl | rfl | rfl | rfl | rfl | rfl | rfl <;> simp only [Nat.reducePow] <;> omega
theorem i64_and7 (n : Int) : bits .and .i64 n 7 = n % 8 := i64_mask 3 7 rfl (by decide) n
theorem i64_and15 (n : Int) : bits .and .i64 n 15 = n % 16 := i64_mask 4 15 rfl (by decide) n
theorem i64_and31 (n : Int) : bits .and .i64 n 31 = n % 32 := i64_mask 5 31 rfl (by decide) n
theorem i64_and63 (n : Int) : bits .and .i64 n 63 = n % 64 := i64_mask 6 63 rfl (by decide) n

theorem dn2_short (n b0 b1 b2 b3 : Nat) (x1 : 194 ≤ b0) (x2 : b0 < 224) (h : n < 2) : decodeN n b0 b1 b2 b3 = (65533, 1) := by
  unfold decodeN
  repeat' split
  all_goals first | rfl | (exfalso; omega)
theorem dn2_bad1 (n b0 b1 b2 b3 : Nat) (x1 : 194 ≤ b0) (x2 : b0 < 224) (_l1 : b1 < 256) (_l2 : b2 < 256) (_l3 : b3 < 256) (h : ¬ (128 ≤ b1 ∧ b1 ≤ 191)) : decodeN n b0 b1 b2 b3 = (65533, 1) := by
  unfold decodeN
  repeat' split
  all_goals first | rfl | (exfalso; omega)
theorem dn2_end (n b0 b1 b2 b3 : Nat) (x1 : 194 ≤ b0) (x2 : b0 < 224) (_l1 : b1 < 256) (_l2 : b2 < 256) (_l3 : b3 < 256) (hn : 2 ≤ n) (k1 : (128 ≤ b1 ∧ b1 ≤ 191)) : decodeN n b0 b1 b2 b3 = if (b0 % 32) * 64 + b1 % 64 < 128 ∨ rightB (((b0 % 32) * 64 + b1 % 64 : Nat) : Int) = false then (65533, 1) else ((b0 % 32) * 64 + b1 % 64, 2) := by
  by_cases hr : 0 ≤ (((b0 % 32) * 64 + b1 % 64 : Nat) : Int) ∧ (((b0 % 32) * 64 + b1 % 64 : Nat) : Int) ≤ 1114111 ∧ ((((b0 % 32) * 64 + b1 % 64 : Nat) : Int) < 55296 ∨ 57343 < (((b0 % 32) * 64 + b1 % 64 : Nat) : Int))
  · rw [rightB_true hr]
    unfold decodeN
    repeat' split
    all_goals first | rfl | (exfalso; omega) | (simp at * <;> omega)
  · rw [rightB_false hr]
    unfold decodeN
    repeat' split
    all_goals first | rfl | (exfalso; omega) | (simp at * <;> omega)
theorem dn3_short (n b0 b1 b2 b3 : Nat) (x1 : 224 ≤ b0) (x2 : b0 < 240) (h : n < 3) : decodeN n b0 b1 b2 b3 = (65533, 1) := by
  unfold decodeN
  repeat' split
  all_goals first | rfl | (exfalso; omega)
theorem dn3_bad1 (n b0 b1 b2 b3 : Nat) (x1 : 224 ≤ b0) (x2 : b0 < 240) (_l1 : b1 < 256) (_l2 : b2 < 256) (_l3 : b3 < 256) (h : ¬ (128 ≤ b1 ∧ b1 ≤ 191)) : decodeN n b0 b1 b2 b3 = (65533, 1) := by
  unfold decodeN
  repeat' split
  all_goals first | rfl | (exfalso; omega)
theorem dn3_bad2 (n b0 b1 b2 b3 : Nat) (x1 : 224 ≤ b0) (x2 : b0 < 240) (_l1 : b1 < 256) (_l2 : b2 < 256) (_l3 : b3 < 256) (h : ¬ (128 ≤ b2 ∧ b2 ≤ 191)) : decodeN n b0 b1 b2 b3 = (65533, 1) := by
  unfold decodeN
  repeat' split
  all_goals first | rfl | (exfalso; omega)
theorem dn3_end (n b0 b1 b2 b3 : Nat) (x1 : 224 ≤ b0) (x2 : b0 < 240) (_l1 : b1 < 256) (_l2 : b2 < 256) (_l3 : b3 < 256) (hn : 3 ≤ n) (k1 : (128 ≤ b1 ∧ b1 ≤ 191)) (k2 : (128 ≤ b2 ∧ b2 ≤ 191)) : decodeN n b0 b1 b2 b3 = if ((b0 % 16) * 64 + b1 % 64) * 64 + b2 % 64 < 2048 ∨ rightB ((((b0 % 16) * 64 + b1 % 64) * 64 + b2 % 64 : Nat) : Int) = false then (65533, 1) else (((b0 % 16) * 64 + b1 % 64) * 64 + b2 % 64, 3) := by
  by_cases hr : 0 ≤ ((((b0 % 16) * 64 + b1 % 64) * 64 + b2 % 64 : Nat) : Int) ∧ ((((b0 % 16) * 64 + b1 % 64) * 64 + b2 % 64 : Nat) : Int) ≤ 1114111 ∧ (((((b0 % 16) * 64 + b1 % 64) * 64 + b2 % 64 : Nat) : Int) < 55296 ∨ 57343 < ((((b0 % 16) * 64 + b1 % 64) * 64 + b2 % 64 : Nat) : Int))
  · rw [rightB_true hr]
    unfold decodeN
    repeat' split
    all_goals first | rfl | (exfalso; omega) | (simp at * <;> omega)
  · rw [rightB_false hr]
    unfold decodeN
    repeat' split
    all_goals first | rfl | (exfalso; omega) | (simp at * <;> omega)
theorem dn4_short (n b0 b1 b2 b3 : Nat) (x1 : 240 ≤ b0) (x2 : b0 < 245) (h : n < 4) : decodeN n b0 b1 b2 b3 = (65533, 1) := by
  unfold decodeN
  repeat' split
  all_goals first | rfl | (exfalso; omega)
theorem dn4_bad1 (n b0 b1 b2 b3 : Nat) (x1 : 240 ≤ b0) (x2 : b0 < 245) (_l1 : b1 < 256) (_l2 : b2 < 256) (_l3 : b3 < 256) (h : ¬ (128 ≤ b1 ∧ b1 ≤ 191)) : decodeN n b0 b1 b2 b3 = (65533, 1) := by
  unfold decodeN
  repeat' split
  all_goals first | rfl | (exfalso; omega)
theorem dn4_bad2 (n b0 b1 b2 b3 : Nat) (x1 : 240 ≤ b0) (x2 : b0 < 245) (_l1 : b1 < 256) (_l2 : b2 < 256) (_l3 : b3 < 256) (h : ¬ (128 ≤ b2 ∧ b2 ≤ 191)) : decodeN n b0 b1 b2 b3 = (65533, 1) := by
  unfold decodeN
  repeat' split
  all_goals first | rfl | (exfalso; omega)
theorem dn4_bad3 (n b0 b1 b2 b3 : Nat) (x1 : 240 ≤ b0) (x2 : b0 < 245) (_l1 : b1 < 256) (_l2 : b2 < 256) (_l3 : b3 < 256) (h : ¬ (128 ≤ b3 ∧ b3 ≤ 191)) : decodeN n b0 b1 b2 b3 = (65533, 1) := by
  unfold decodeN
  repeat' split
  all_goals first | rfl | (exfalso; omega)
theorem dn4_end (n b0 b1 b2 b3 : Nat) (x1 : 240 ≤ b0) (x2 : b0 < 245) (_l1 : b1 < 256) (_l2 : b2 < 256) (_l3 : b3 < 256) (hn : 4 ≤ n) (k1 : (128 ≤ b1 ∧ b1 ≤ 191)) (k2 : (128 ≤ b2 ∧ b2 ≤ 191)) (k3 : (128 ≤ b3 ∧ b3 ≤ 191)) : decodeN n b0 b1 b2 b3 = if (((b0 % 8) * 64 + b1 % 64) * 64 + b2 % 64) * 64 + b3 % 64 < 65536 ∨ rightB (((((b0 % 8) * 64 + b1 % 64) * 64 + b2 % 64) * 64 + b3 % 64 : Nat) : Int) = false then (65533, 1) else ((((b0 % 8) * 64 + b1 % 64) * 64 + b2 % 64) * 64 + b3 % 64, 4) := by
  by_cases hr : 0 ≤ (((((b0 % 8) * 64 + b1 % 64) * 64 + b2 % 64) * 64 + b3 % 64 : Nat) : Int) ∧ (((((b0 % 8) * 64 + b1 % 64) * 64 + b2 % 64) * 64 + b3 % 64 : Nat) : Int) ≤ 1114111 ∧ ((((((b0 % 8) * 64 + b1 % 64) * 64 + b2 % 64) * 64 + b3 % 64 : Nat) : Int) < 55296 ∨ 57343 < (((((b0 % 8) * 64 + b1 % 64) * 64 + b2 % 64) * 64 + b3 % 64 : Nat) : Int))
  · rw [rightB_true hr]
    unfold decodeN
    repeat' split
    all_goals first | rfl | (exfalso; omega) | (simp at * <;> omega)
  · rw [rightB_false hr]
    unfold decodeN
    repeat' split
    all_goals first | rfl | (exfalso; omega) | (simp at * <;> omega)

set_option maxRecDepth 100000 in
set_option maxHeartbeats 2000000 in
theorem point_2 (n b0 b1 b2 b3 bk off cap : Nat) (w : World) (hn : 1 ≤ n) (hm : n ≤ maxLen) (l1 : b1 < 256) (l2 : b2 < 256) (l3 : b3 < 256) (x1 : 194 ≤ b0) (x2 : b0 < 224)
    (h0 : w.cell? ⟨bk, off, none⟩ = some (.int .u8 b0)) (h1 : 1 < n → w.cell? ⟨bk, off + 1, none⟩ = some (.int .u8 b1)) (_h2 : 2 < n → w.cell? ⟨bk, off + 2, none⟩ = some (.int .u8 b2)) (_h3 : 3 < n → w.cell? ⟨bk, off + 3, none⟩ = some (.int .u8 b3)) :
    Calls Tryd.prog 21 #[.slice (some ⟨bk, off, none⟩) n cap] w fun e w' => e = .returned (.tuple #[.int .i64 (decodeN n b0 b1 b2 b3).1, .int .i64 (decodeN n b0 b1 b2 b3).2]) ∧ w' = w := by
  unfold maxLen at hm
  have g0 : ¬ (b0 : Int) < 128 := by omega
  have gn : (0 : Int) < n := by omega
  have ga194 :  (194 : Int) ≤ b0 := by omega
  have gb224 :  (b0 : Int) < 224 := by omega
  have ga224 : ¬ (224 : Int) ≤ b0 := by omega
  have gb240 :  (b0 : Int) < 240 := by omega
  have ga240 : ¬ (240 : Int) ≤ b0 := by omega
  have gb245 :  (b0 : Int) < 245 := by omega
  have m31 := i64_and31
  have m63 := i64_and63
  by_cases hs : (n : Int) < 2
  · have HD : Hid (_ = _) := dn2_short n b0 b1 b2 b3 x1 x2 (by omega)
    go_enter Tryd.func21, Tryd.ntmps21
    go_wp2
    go_ret2
    exact ⟨ret_dec HD rfl rfl, rfl⟩
  · have c1 := h1 (by omega)
    have ge : (2 : Int) ≤ n := by omega
    clear h1 _h2 _h3
    go_enter Tryd.func21, Tryd.ntmps21
    go_wp2
    go_loop [7, 8] (fun c i => (i = .int .i64 1 ∧ c = .int .i64 ((b0 : Int) % 32)) ∨ (i = .int .i64 2 ∧ c = .int .i64 (((b0 : Int) % 32) * 64 + (b1 : Int) % 64) ∧ (128 ≤ b1 ∧ b1 ≤ 191))) (fun _ i => 2 - (intOf i).toNat)
    case atStart => exact .inl ⟨rfl, rfl⟩
    case round =>
      rcases hrel with ⟨rfl, rfl⟩ | ⟨rfl, rfl, k1⟩
      · by_cases hc : 128 ≤ b1 ∧ b1 ≤ 191
        · obtain ⟨q1, q2⟩ := hc
          have i1 : ¬ (b1 : Int) < 128 := by omega
          have i2 : ¬ (191 : Int) < b1 := by omega
          go_wp2
          exact ⟨.inr ⟨rfl, rfl, ⟨q1, q2⟩⟩, by simp [intOf]⟩
        · have HD : Hid (_ = _) := dn2_bad1 n b0 b1 b2 b3 x1 x2 l1 l2 l3 hc
          by_cases i1 : (b1 : Int) < 128
          · go_wp2
            go_ret2
            exact ⟨ret_dec HD rfl rfl, rfl⟩
          · have i2 : (191 : Int) < b1 := by omega
            go_wp2
            go_ret2
            exact ⟨ret_dec HD rfl rfl, rfl⟩
      · have hD := dn2_end n b0 b1 b2 b3 x1 x2 l1 l2 l3 (by omega) k1
        have hcast : (((b0 % 32) * 64 + b1 % 64 : Nat) : Int) = ((b0 : Int) % 32) * 64 + (b1 : Int) % 64 := by push_cast; rfl
        by_cases q : (b0 % 32) * 64 + b1 % 64 < 128
        · have i1 : ((b0 : Int) % 32) * 64 + (b1 : Int) % 64 < (128 : Int) := by omega
          rw [if_pos (.inl q)] at hD
          have HD : Hid (_ = _) := hD
          clear hcast q hD
          go_wp2
          go_ret2
          exact ⟨ret_dec HD rfl rfl, rfl⟩
        · have i1 : ¬ ((b0 : Int) % 32) * 64 + (b1 : Int) % 64 < (128 : Int) := by omega
          rw [hcast] at hD
          cases hb : rightB (((b0 : Int) % 32) * 64 + (b1 : Int) % 64)
          · rw [if_pos (.inr hb)] at hD
            have HD : Hid (_ = _) := hD
            clear hcast q hD
            go_wp2_with (go_at_call 28; refine (right_any _ _).mono ?_; rintro e w2 ⟨rfl, rfl⟩)
            go_ret2
            exact ⟨ret_dec HD rfl rfl, rfl⟩
          · rw [if_neg (by simp [q, hb])] at hD
            have HD : Hid (_ = _) := hD
            clear hcast q hD
            go_wp2_with (go_at_call 28; refine (right_any _ _).mono ?_; rintro e w2 ⟨rfl, rfl⟩)
            go_ret2
            exact ⟨ret_dec HD (by push_cast; rfl) rfl, rfl⟩

set_option maxRecDepth 100000 in
set_option maxHeartbeats 2000000 in
theorem point_3 (n b0 b1 b2 b3 bk off cap : Nat) (w : World) (hn : 1 ≤ n) (hm : n ≤ maxLen) (l1 : b1 < 256) (l2 : b2 < 256) (l3 : b3 < 256) (x1 : 224 ≤ b0) (x2 : b0 < 240)
    (h0 : w.cell? ⟨bk, off, none⟩ = some (.int .u8 b0)) (h1 : 1 < n → w.cell? ⟨bk, off + 1, none⟩ = some (.int .u8 b1)) (h2 : 2 < n → w.cell? ⟨bk, off + 2, none⟩ = some (.int .u8 b2)) (_h3 : 3 < n → w.cell? ⟨bk, off + 3, none⟩ = some (.int .u8 b3)) :
    Calls Tryd.prog 21 #[.slice (some ⟨bk, off, none⟩) n cap] w fun e w' => e = .returned (.tuple #[.int .i64 (decodeN n b0 b1 b2 b3).1, .int .i64 (decodeN n b0 b1 b2 b3).2]) ∧ w' = w := by
  unfold maxLen at hm
  have g0 : ¬ (b0 : Int) < 128 := by omega
  have gn : (0 : Int) < n := by omega
  have ga194 :  (194 : Int) ≤ b0 := by omega
  have gb224 : ¬ (b0 : Int) < 224 := by omega
  have ga224 :  (224 : Int) ≤ b0 := by omega
  have gb240 :  (b0 : Int) < 240 := by omega
  have ga240 : ¬ (240 : Int) ≤ b0 := by omega
  have gb245 :  (b0 : Int) < 245 := by omega
  have m15 := i64_and15
  have m63 := i64_and63
  by_cases hs : (n : Int) < 3
  · have HD : Hid (_ = _) := dn3_short n b0 b1 b2 b3 x1 x2 (by omega)
    go_enter Tryd.func21, Tryd.ntmps21
    go_wp2
    go_ret2
    exact ⟨ret_dec HD rfl rfl, rfl⟩
  · have c1 := h1 (by omega)
    have c2 := h2 (by omega)
    have ge : (3 : Int) ≤ n := by omega
    clear h1 h2 _h3
    go_enter Tryd.func21, Tryd.ntmps21
    go_wp2
    go_loop [7, 8] (fun c i => (i = .int .i64 1 ∧ c = .int .i64 ((b0 : Int) % 16)) ∨ (i = .int .i64 2 ∧ c = .int .i64 (((b0 : Int) % 16) * 64 + (b1 : Int) % 64) ∧ (128 ≤ b1 ∧ b1 ≤ 191)) ∨ (i = .int .i64 3 ∧ c = .int .i64 ((((b0 : Int) % 16) * 64 + (b1 : Int) % 64) * 64 + (b2 : Int) % 64) ∧ (128 ≤ b1 ∧ b1 ≤ 191) ∧ (128 ≤ b2 ∧ b2 ≤ 191))) (fun _ i => 3 - (intOf i).toNat)
    case atStart => exact .inl ⟨rfl, rfl⟩
    case round =>
      rcases hrel with ⟨rfl, rfl⟩ | ⟨rfl, rfl, k1⟩ | ⟨rfl, rfl, k1, k2⟩
      · by_cases hc : 128 ≤ b1 ∧ b1 ≤ 191
        · obtain ⟨q1, q2⟩ := hc
          have i1 : ¬ (b1 : Int) < 128 := by omega
          have i2 : ¬ (191 : Int) < b1 := by omega
          go_wp2
          exact ⟨.inr (.inl ⟨rfl, rfl, ⟨q1, q2⟩⟩), by simp [intOf]⟩
        · have HD : Hid (_ = _) := dn3_bad1 n b0 b1 b2 b3 x1 x2 l1 l2 l3 hc
          by_cases i1 : (b1 : Int) < 128
          · go_wp2
            go_ret2
            exact ⟨ret_dec HD rfl rfl, rfl⟩
          · have i2 : (191 : Int) < b1 := by omega
            go_wp2
            go_ret2
            exact ⟨ret_dec HD rfl rfl, rfl⟩
      · by_cases hc : 128 ≤ b2 ∧ b2 ≤ 191
        · obtain ⟨q1, q2⟩ := hc
          have i1 : ¬ (b2 : Int) < 128 := by omega
          have i2 : ¬ (191 : Int) < b2 := by omega
          go_wp2
          exact ⟨.inr (.inr ⟨rfl, rfl, k1, ⟨q1, q2⟩⟩), by simp [intOf]⟩
        · have HD : Hid (_ = _) := dn3_bad2 n b0 b1 b2 b3 x1 x2 l1 l2 l3 hc
          by_cases i1 : (b2 : Int) < 128
          · go_wp2
            go_ret2
            exact ⟨ret_dec HD rfl rfl, rfl⟩
          · have i2 : (191 : Int) < b2 := by omega
            go_wp2
            go_ret2
            exact ⟨ret_dec HD rfl rfl, rfl⟩
      · have hD := dn3_end n b0 b1 b2 b3 x1 x2 l1 l2 l3 (by omega) k1 k2
        have hcast : ((((b0 % 16) * 64 + b1 % 64) * 64 + b2 % 64 : Nat) : Int) = (((b0 : Int) % 16) * 64 + (b1 : Int) % 64) * 64 + (b2 : Int) % 64 := by push_cast; rfl
        by_cases q : ((b0 % 16) * 64 + b1 % 64) * 64 + b2 % 64 < 2048
        · have i1 : (((b0 : Int) % 16) * 64 + (b1 : Int) % 64) * 64 + (b2 : Int) % 64 < (2048 : Int) := by omega
          rw [if_pos (.inl q)] at hD
          have HD : Hid (_ = _) := hD
          clear hcast q hD
          go_wp2
          go_ret2
          exact ⟨ret_dec HD rfl rfl, rfl⟩
        · have i1 : ¬ (((b0 : Int) % 16) * 64 + (b1 : Int) % 64) * 64 + (b2 : Int) % 64 < (2048 : Int) := by omega
          rw [hcast] at hD
          cases hb : rightB ((((b0 : Int) % 16) * 64 + (b1 : Int) % 64) * 64 + (b2 : Int) % 64)
          · rw [if_pos (.inr hb)] at hD
            have HD : Hid (_ = _) := hD
            clear hcast q hD
            go_wp2_with (go_at_call 28; refine (right_any _ _).mono ?_; rintro e w2 ⟨rfl, rfl⟩)
            go_ret2
            exact ⟨ret_dec HD rfl rfl, rfl⟩
          · rw [if_neg (by simp [q, hb])] at hD
            have HD : Hid (_ = _) := hD
            clear hcast q hD
            go_wp2_with (go_at_call 28; refine (right_any _ _).mono ?_; rintro e w2 ⟨rfl, rfl⟩)
            go_ret2
            exact ⟨ret_dec HD (by push_cast; rfl) rfl, rfl⟩

set_option maxRecDepth 100000 in
set_option maxHeartbeats 2000000 in
theorem point_4 (n b0 b1 b2 b3 bk off cap : Nat) (w : World) (hn : 1 ≤ n) (hm : n ≤ maxLen) (l1 : b1 < 256) (l2 : b2 < 256) (l3 : b3 < 256) (x1 : 240 ≤ b0) (x2 : b0 < 245)
    (h0 : w.cell? ⟨bk, off, none⟩ = some (.int .u8 b0)) (h1 : 1 < n → w.cell? ⟨bk, off + 1, none⟩ = some (.int .u8 b1)) (h2 : 2 < n → w.cell? ⟨bk, off + 2, none⟩ = some (.int .u8 b2)) (h3 : 3 < n → w.cell? ⟨bk, off + 3, none⟩ = some (.int .u8 b3)) :
    Calls Tryd.prog 21 #[.slice (some ⟨bk, off, none⟩) n cap] w fun e w' => e = .returned (.tuple #[.int .i64 (decodeN n b0 b1 b2 b3).1, .int .i64 (decodeN n b0 b1 b2 b3).2]) ∧ w' = w := by
  unfold maxLen at hm
  have g0 : ¬ (b0 : Int) < 128 := by omega
  have gn : (0 : Int) < n := by omega
  have ga194 :  (194 : Int) ≤ b0 := by omega
  have gb224 : ¬ (b0 : Int) < 224 := by omega
  have ga224 :  (224 : Int) ≤ b0 := by omega
  have gb240 : ¬ (b0 : Int) < 240 := by omega
  have ga240 :  (240 : Int) ≤ b0 := by omega
  have gb245 :  (b0 : Int) < 245 := by omega
  have m7 := i64_and7
  have m63 := i64_and63
  by_cases hs : (n : Int) < 4
  · have HD : Hid (_ = _) := dn4_short n b0 b1 b2 b3 x1 x2 (by omega)
    go_enter Tryd.func21, Tryd.ntmps21
    go_wp2
    go_ret2
    exact ⟨ret_dec HD rfl rfl, rfl⟩
  · have c1 := h1 (by omega)
    have c2 := h2 (by omega)
    have c3 := h3 (by omega)
    have ge : (4 : Int) ≤ n := by omega
    clear h1 h2 h3
    go_enter Tryd.func21, Tryd.ntmps21
    go_wp2
    go_loop [7, 8] (fun c i => (i = .int .i64 1 ∧ c = .int .i64 ((b0 : Int) % 8)) ∨ (i = .int .i64 2 ∧ c = .int .i64 (((b0 : Int) % 8) * 64 + (b1 : Int) % 64) ∧ (128 ≤ b1 ∧ b1 ≤ 191)) ∨ (i = .int .i64 3 ∧ c = .int .i64 ((((b0 : Int) % 8) * 64 + (b1 : Int) % 64) * 64 + (b2 : Int) % 64) ∧ (128 ≤ b1 ∧ b1 ≤ 191) ∧ (128 ≤ b2 ∧ b2 ≤ 191)) ∨ (i = .int .i64 4 ∧ c = .int .i64 (((((b0 : Int) % 8) * 64 + (b1 : Int) % 64) * 64 + (b2 : Int) % 64) * 64 + (b3 : Int) % 64) ∧ (128 ≤ b1 ∧ b1 ≤ 191) ∧ (128 ≤ b2 ∧ b2 ≤ 191) ∧ (128 ≤ b3 ∧ b3 ≤ 191))) (fun _ i => 4 - (intOf i).toNat)
    case atStart => exact .inl ⟨rfl, rfl⟩
    case round =>
      rcases hrel with ⟨rfl, rfl⟩ | ⟨rfl, rfl, k1⟩ | ⟨rfl, rfl, k1, k2⟩ | ⟨rfl, rfl, k1, k2, k3⟩
      · by_cases hc : 128 ≤ b1 ∧ b1 ≤ 191
        · obtain ⟨q1, q2⟩ := hc
          have i1 : ¬ (b1 : Int) < 128 := by omega
          have i2 : ¬ (191 : Int) < b1 := by omega
          go_wp2
          exact ⟨.inr (.inl ⟨rfl, rfl, ⟨q1, q2⟩⟩), by simp [intOf]⟩
        · have HD : Hid (_ = _) := dn4_bad1 n b0 b1 b2 b3 x1 x2 l1 l2 l3 hc
          by_cases i1 : (b1 : Int) < 128
          · go_wp2
            go_ret2
            exact ⟨ret_dec HD rfl rfl, rfl⟩
          · have i2 : (191 : Int) < b1 := by omega
            go_wp2
            go_ret2
            exact ⟨ret_dec HD rfl rfl, rfl⟩
      · by_cases hc : 128 ≤ b2 ∧ b2 ≤ 191
        · obtain ⟨q1, q2⟩ := hc
          have i1 : ¬ (b2 : Int) < 128 := by omega
          have i2 : ¬ (191 : Int) < b2 := by omega
          go_wp2
          exact ⟨.inr (.inr (.inl ⟨rfl, rfl, k1, ⟨q1, q2⟩⟩)), by simp [intOf]⟩
        · have HD : Hid (_ = _) := dn4_bad2 n b0 b1 b2 b3 x1 x2 l1 l2 l3 hc
          by_cases i1 : (b2 : Int) < 128
          · go_wp2
            go_ret2
            exact ⟨ret_dec HD rfl rfl, rfl⟩
          · have i2 : (191 : Int) < b2 := by omega
            go_wp2
            go_ret2
            exact ⟨ret_dec HD rfl rfl, rfl⟩
      · by_cases hc : 128 ≤ b3 ∧ b3 ≤ 191
        · obtain ⟨q1, q2⟩ := hc
          have i1 : ¬ (b3 : Int) < 128 := by omega
          have i2 : ¬ (191 : Int) < b3 := by omega
          go_wp2
          exact ⟨.inr (.inr (.inr ⟨rfl, rfl, k1, k2, ⟨q1, q2⟩⟩)), by simp [intOf]⟩
        · have HD : Hid (_ = _) := dn4_bad3 n b0 b1 b2 b3 x1 x2 l1 l2 l3 hc
          by_cases i1 : (b3 : Int) < 128
          · go_wp2
            go_ret2
            exact ⟨ret_dec HD rfl rfl, rfl⟩
          · have i2 : (191 : Int) < b3 := by omega
            go_wp2
            go_ret2
            exact ⟨ret_dec HD rfl rfl, rfl⟩
      · have hD := dn4_end n b0 b1 b2 b3 x1 x2 l1 l2 l3 (by omega) k1 k2 k3
        have hcast : (((((b0 % 8) * 64 + b1 % 64) * 64 + b2 % 64) * 64 + b3 % 64 : Nat) : Int) = ((((b0 : Int) % 8) * 64 + (b1 : Int) % 64) * 64 + (b2 : Int) % 64) * 64 + (b3 : Int) % 64 := by push_cast; rfl
        by_cases q : (((b0 % 8) * 64 + b1 % 64) * 64 + b2 % 64) * 64 + b3 % 64 < 65536
        · have i1 : ((((b0 : Int) % 8) * 64 + (b1 : Int) % 64) * 64 + (b2 : Int) % 64) * 64 + (b3 : Int) % 64 < (65536 : Int) := by omega
          rw [if_pos (.inl q)] at hD
          have HD : Hid (_ = _) := hD
          clear hcast q hD
          go_wp2
          go_ret2
          exact ⟨ret_dec HD rfl rfl, rfl⟩
        · have i1 : ¬ ((((b0 : Int) % 8) * 64 + (b1 : Int) % 64) * 64 + (b2 : Int) % 64) * 64 + (b3 : Int) % 64 < (65536 : Int) := by omega
          rw [hcast] at hD
          cases hb : rightB (((((b0 : Int) % 8) * 64 + (b1 : Int) % 64) * 64 + (b2 : Int) % 64) * 64 + (b3 : Int) % 64)
          · rw [if_pos (.inr hb)] at hD
            have HD : Hid (_ = _) := hD
            clear hcast q hD
            go_wp2_with (go_at_call 28; refine (right_any _ _).mono ?_; rintro e w2 ⟨rfl, rfl⟩)
            go_ret2
            exact ⟨ret_dec HD rfl rfl, rfl⟩
          · rw [if_neg (by simp [q, hb])] at hD
            have HD : Hid (_ = _) := hD
            clear hcast q hD
            go_wp2_with (go_at_call 28; refine (right_any _ _).mono ?_; rintro e w2 ⟨rfl, rfl⟩)
            go_ret2
            exact ⟨ret_dec HD (by push_cast; rfl) rfl, rfl⟩

end Go.Proofs.YtpbgefgoccmncaaDoor
