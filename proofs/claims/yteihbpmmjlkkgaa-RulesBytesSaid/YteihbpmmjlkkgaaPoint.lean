/- The document's own point: the code point at the head of a slice of bytes, and its width: it is what the library's decoder tells. -/
import Derived.Test.YteihbpmmjlkkgaaRight
namespace Go.Proofs.Yteihbpmmjlkkgaa
open Go Go.RowKit Go.Shelf
open Go.Lib (decodeN)

set_option maxRecDepth 100000 in
set_option maxHeartbeats 2000000 in
theorem point_2 (n b0 b1 b2 b3 bk off cap : Nat) (w : World) (hn : 1 ≤ n) (hm : n ≤ maxLen) (l1 : b1 < 256) (l2 : b2 < 256) (l3 : b3 < 256) (x1 : 194 ≤ b0) (x2 : b0 < 224)
    (h0 : w.cell? ⟨bk, off, none⟩ = some (.int .u8 b0)) (h1 : 1 < n → w.cell? ⟨bk, off + 1, none⟩ = some (.int .u8 b1)) (_h2 : 2 < n → w.cell? ⟨bk, off + 2, none⟩ = some (.int .u8 b2)) (_h3 : 3 < n → w.cell? ⟨bk, off + 3, none⟩ = some (.int .u8 b3)) :
    Calls Try.prog 41 #[.slice (some ⟨bk, off, none⟩) n cap] w fun e w' => e = .returned (.tuple #[.int .i64 (decodeN n b0 b1 b2 b3).1, .int .i64 (decodeN n b0 b1 b2 b3).2]) ∧ w' = w := by
  unfold maxLen at hm
  have g0 : ¬ (b0 : Int) < 128 := by omega
  have gn : (0 : Int) < n := by omega
  have ga194 :  (194 : Int) ≤ b0 := by omega
  have gb224 :  (b0 : Int) < 224 := by omega
  have ga224 : ¬ (224 : Int) ≤ b0 := by omega
  have gb240 :  (b0 : Int) < 240 := by omega
  have ga240 : ¬ (240 : Int) ≤ b0 := by omega
  have gb245 :  (b0 : Int) < 245 := by omega
  have m31 := i64_and31
  have m63 := i64_and63
  by_cases hs : (n : Int) < 2
  · have HD : Hid (_ = _) := dn2_short n b0 b1 b2 b3 x1 x2 (by omega)
    go_enter Try.func41, Try.ntmps41
    go_wp2
    go_ret2
    exact ⟨ret_dec HD rfl rfl, rfl⟩
  · have c1 := h1 (by omega)
    have ge : (2 : Int) ≤ n := by omega
    clear h1 _h2 _h3
    go_enter Try.func41, Try.ntmps41
    go_wp2
    go_loop [7, 8] (fun c i => (i = .int .i64 1 ∧ c = .int .i64 ((b0 : Int) % 32)) ∨ (i = .int .i64 2 ∧ c = .int .i64 (((b0 : Int) % 32) * 64 + (b1 : Int) % 64) ∧ (128 ≤ b1 ∧ b1 ≤ 191))) (fun _ i => 2 - (intOf i).toNat)
    case atStart => exact .inl ⟨rfl, rfl⟩
    case round =>
      rcases hrel with ⟨rfl, rfl⟩ | ⟨rfl, rfl, k1⟩
      · by_cases hc : 128 ≤ b1 ∧ b1 ≤ 191
        · obtain ⟨q1, q2⟩ := hc
          have i1 : ¬ (b1 : Int) < 128 := by omega
          have i2 : ¬ (191 : Int) < b1 := by omega
          go_wp2
          exact ⟨.inr ⟨rfl, rfl, ⟨q1, q2⟩⟩, by simp [intOf]⟩
        · have HD : Hid (_ = _) := dn2_bad1 n b0 b1 b2 b3 x1 x2 l1 l2 l3 hc
          by_cases i1 : (b1 : Int) < 128
          · go_wp2
            go_ret2
            exact ⟨ret_dec HD rfl rfl, rfl⟩
          · have i2 : (191 : Int) < b1 := by omega
            go_wp2
            go_ret2
            exact ⟨ret_dec HD rfl rfl, rfl⟩
      · have hD := dn2_end n b0 b1 b2 b3 x1 x2 l1 l2 l3 (by omega) k1
        have hcast : (((b0 % 32) * 64 + b1 % 64 : Nat) : Int) = ((b0 : Int) % 32) * 64 + (b1 : Int) % 64 := by push_cast; rfl
        by_cases q : (b0 % 32) * 64 + b1 % 64 < 128
        · have i1 : ((b0 : Int) % 32) * 64 + (b1 : Int) % 64 < (128 : Int) := by omega
          rw [if_pos (.inl q)] at hD
          have HD : Hid (_ = _) := hD
          clear hcast q hD
          go_wp2
          go_ret2
          exact ⟨ret_dec HD rfl rfl, rfl⟩
        · have i1 : ¬ ((b0 : Int) % 32) * 64 + (b1 : Int) % 64 < (128 : Int) := by omega
          rw [hcast] at hD
          cases hb : rightB (((b0 : Int) % 32) * 64 + (b1 : Int) % 64)
          · rw [if_pos (.inr hb)] at hD
            have HD : Hid (_ = _) := hD
            clear hcast q hD
            go_wp2_with (go_at_call 35; refine (right_any _ _).mono ?_; rintro e w2 ⟨rfl, rfl⟩)
            go_ret2
            exact ⟨ret_dec HD rfl rfl, rfl⟩
          · rw [if_neg (by simp [q, hb])] at hD
            have HD : Hid (_ = _) := hD
            clear hcast q hD
            go_wp2_with (go_at_call 35; refine (right_any _ _).mono ?_; rintro e w2 ⟨rfl, rfl⟩)
            go_ret2
            exact ⟨ret_dec HD (by push_cast; rfl) rfl, rfl⟩

set_option maxRecDepth 100000 in
set_option maxHeartbeats 2000000 in
theorem point_3 (n b0 b1 b2 b3 bk off cap : Nat) (w : World) (hn : 1 ≤ n) (hm : n ≤ maxLen) (l1 : b1 < 256) (l2 : b2 < 256) (l3 : b3 < 256) (x1 : 224 ≤ b0) (x2 : b0 < 240)
    (h0 : w.cell? ⟨bk, off, none⟩ = some (.int .u8 b0)) (h1 : 1 < n → w.cell? ⟨bk, off + 1, none⟩ = some (.int .u8 b1)) (h2 : 2 < n → w.cell? ⟨bk, off + 2, none⟩ = some (.int .u8 b2)) (_h3 : 3 < n → w.cell? ⟨bk, off + 3, none⟩ = some (.int .u8 b3)) :
    Calls Try.prog 41 #[.slice (some ⟨bk, off, none⟩) n cap] w fun e w' => e = .returned (.tuple #[.int .i64 (decodeN n b0 b1 b2 b3).1, .int .i64 (decodeN n b0 b1 b2 b3).2]) ∧ w' = w := by
  unfold maxLen at hm
  have g0 : ¬ (b0 : Int) < 128 := by omega
  have gn : (0 : Int) < n := by omega
  have ga194 :  (194 : Int) ≤ b0 := by omega
  have gb224 : ¬ (b0 : Int) < 224 := by omega
  have ga224 :  (224 : Int) ≤ b0 := by omega
  have gb240 :  (b0 : Int) < 240 := by omega
  have ga240 : ¬ (240 : Int) ≤ b0 := by omega
  have gb245 :  (b0 : Int) < 245 := by omega
  have m15 := i64_and15
  have m63 := i64_and63
  by_cases hs : (n : Int) < 3
  · have HD : Hid (_ = _) := dn3_short n b0 b1 b2 b3 x1 x2 (by omega)
    go_enter Try.func41, Try.ntmps41
    go_wp2
    go_ret2
    exact ⟨ret_dec HD rfl rfl, rfl⟩
  · have c1 := h1 (by omega)
    have c2 := h2 (by omega)
    have ge : (3 : Int) ≤ n := by omega
    clear h1 h2 _h3
    go_enter Try.func41, Try.ntmps41
    go_wp2
    go_loop [7, 8] (fun c i => (i = .int .i64 1 ∧ c = .int .i64 ((b0 : Int) % 16)) ∨ (i = .int .i64 2 ∧ c = .int .i64 (((b0 : Int) % 16) * 64 + (b1 : Int) % 64) ∧ (128 ≤ b1 ∧ b1 ≤ 191)) ∨ (i = .int .i64 3 ∧ c = .int .i64 ((((b0 : Int) % 16) * 64 + (b1 : Int) % 64) * 64 + (b2 : Int) % 64) ∧ (128 ≤ b1 ∧ b1 ≤ 191) ∧ (128 ≤ b2 ∧ b2 ≤ 191))) (fun _ i => 3 - (intOf i).toNat)
    case atStart => exact .inl ⟨rfl, rfl⟩
    case round =>
      rcases hrel with ⟨rfl, rfl⟩ | ⟨rfl, rfl, k1⟩ | ⟨rfl, rfl, k1, k2⟩
      · by_cases hc : 128 ≤ b1 ∧ b1 ≤ 191
        · obtain ⟨q1, q2⟩ := hc
          have i1 : ¬ (b1 : Int) < 128 := by omega
          have i2 : ¬ (191 : Int) < b1 := by omega
          go_wp2
          exact ⟨.inr (.inl ⟨rfl, rfl, ⟨q1, q2⟩⟩), by simp [intOf]⟩
        · have HD : Hid (_ = _) := dn3_bad1 n b0 b1 b2 b3 x1 x2 l1 l2 l3 hc
          by_cases i1 : (b1 : Int) < 128
          · go_wp2
            go_ret2
            exact ⟨ret_dec HD rfl rfl, rfl⟩
          · have i2 : (191 : Int) < b1 := by omega
            go_wp2
            go_ret2
            exact ⟨ret_dec HD rfl rfl, rfl⟩
      · by_cases hc : 128 ≤ b2 ∧ b2 ≤ 191
        · obtain ⟨q1, q2⟩ := hc
          have i1 : ¬ (b2 : Int) < 128 := by omega
          have i2 : ¬ (191 : Int) < b2 := by omega
          go_wp2
          exact ⟨.inr (.inr ⟨rfl, rfl, k1, ⟨q1, q2⟩⟩), by simp [intOf]⟩
        · have HD : Hid (_ = _) := dn3_bad2 n b0 b1 b2 b3 x1 x2 l1 l2 l3 hc
          by_cases i1 : (b2 : Int) < 128
          · go_wp2
            go_ret2
            exact ⟨ret_dec HD rfl rfl, rfl⟩
          · have i2 : (191 : Int) < b2 := by omega
            go_wp2
            go_ret2
            exact ⟨ret_dec HD rfl rfl, rfl⟩
      · have hD := dn3_end n b0 b1 b2 b3 x1 x2 l1 l2 l3 (by omega) k1 k2
        have hcast : ((((b0 % 16) * 64 + b1 % 64) * 64 + b2 % 64 : Nat) : Int) = (((b0 : Int) % 16) * 64 + (b1 : Int) % 64) * 64 + (b2 : Int) % 64 := by push_cast; rfl
        by_cases q : ((b0 % 16) * 64 + b1 % 64) * 64 + b2 % 64 < 2048
        · have i1 : (((b0 : Int) % 16) * 64 + (b1 : Int) % 64) * 64 + (b2 : Int) % 64 < (2048 : Int) := by omega
          rw [if_pos (.inl q)] at hD
          have HD : Hid (_ = _) := hD
          clear hcast q hD
          go_wp2
          go_ret2
          exact ⟨ret_dec HD rfl rfl, rfl⟩
        · have i1 : ¬ (((b0 : Int) % 16) * 64 + (b1 : Int) % 64) * 64 + (b2 : Int) % 64 < (2048 : Int) := by omega
          rw [hcast] at hD
          cases hb : rightB ((((b0 : Int) % 16) * 64 + (b1 : Int) % 64) * 64 + (b2 : Int) % 64)
          · rw [if_pos (.inr hb)] at hD
            have HD : Hid (_ = _) := hD
            clear hcast q hD
            go_wp2_with (go_at_call 35; refine (right_any _ _).mono ?_; rintro e w2 ⟨rfl, rfl⟩)
            go_ret2
            exact ⟨ret_dec HD rfl rfl, rfl⟩
          · rw [if_neg (by simp [q, hb])] at hD
            have HD : Hid (_ = _) := hD
            clear hcast q hD
            go_wp2_with (go_at_call 35; refine (right_any _ _).mono ?_; rintro e w2 ⟨rfl, rfl⟩)
            go_ret2
            exact ⟨ret_dec HD (by push_cast; rfl) rfl, rfl⟩

set_option maxRecDepth 100000 in
set_option maxHeartbeats 2000000 in
theorem point_4 (n b0 b1 b2 b3 bk off cap : Nat) (w : World) (hn : 1 ≤ n) (hm : n ≤ maxLen) (l1 : b1 < 256) (l2 : b2 < 256) (l3 : b3 < 256) (x1 : 240 ≤ b0) (x2 : b0 < 245)
    (h0 : w.cell? ⟨bk, off, none⟩ = some (.int .u8 b0)) (h1 : 1 < n → w.cell? ⟨bk, off + 1, none⟩ = some (.int .u8 b1)) (h2 : 2 < n → w.cell? ⟨bk, off + 2, none⟩ = some (.int .u8 b2)) (h3 : 3 < n → w.cell? ⟨bk, off + 3, none⟩ = some (.int .u8 b3)) :
    Calls Try.prog 41 #[.slice (some ⟨bk, off, none⟩) n cap] w fun e w' => e = .returned (.tuple #[.int .i64 (decodeN n b0 b1 b2 b3).1, .int .i64 (decodeN n b0 b1 b2 b3).2]) ∧ w' = w := by
  unfold maxLen at hm
  have g0 : ¬ (b0 : Int) < 128 := by omega
  have gn : (0 : Int) < n := by omega
  have ga194 :  (194 : Int) ≤ b0 := by omega
  have gb224 : ¬ (b0 : Int) < 224 := by omega
  have ga224 :  (224 : Int) ≤ b0 := by omega
  have gb240 : ¬ (b0 : Int) < 240 := by omega
  have ga240 :  (240 : Int) ≤ b0 := by omega
  have gb245 :  (b0 : Int) < 245 := by omega
  have m7 := i64_and7
  have m63 := i64_and63
  by_cases hs : (n : Int) < 4
  · have HD : Hid (_ = _) := dn4_short n b0 b1 b2 b3 x1 x2 (by omega)
    go_enter Try.func41, Try.ntmps41
    go_wp2
    go_ret2
    exact ⟨ret_dec HD rfl rfl, rfl⟩
  · have c1 := h1 (by omega)
    have c2 := h2 (by omega)
    have c3 := h3 (by omega)
    have ge : (4 : Int) ≤ n := by omega
    clear h1 h2 h3
    go_enter Try.func41, Try.ntmps41
    go_wp2
    go_loop [7, 8] (fun c i => (i = .int .i64 1 ∧ c = .int .i64 ((b0 : Int) % 8)) ∨ (i = .int .i64 2 ∧ c = .int .i64 (((b0 : Int) % 8) * 64 + (b1 : Int) % 64) ∧ (128 ≤ b1 ∧ b1 ≤ 191)) ∨ (i = .int .i64 3 ∧ c = .int .i64 ((((b0 : Int) % 8) * 64 + (b1 : Int) % 64) * 64 + (b2 : Int) % 64) ∧ (128 ≤ b1 ∧ b1 ≤ 191) ∧ (128 ≤ b2 ∧ b2 ≤ 191)) ∨ (i = .int .i64 4 ∧ c = .int .i64 (((((b0 : Int) % 8) * 64 + (b1 : Int) % 64) * 64 + (b2 : Int) % 64) * 64 + (b3 : Int) % 64) ∧ (128 ≤ b1 ∧ b1 ≤ 191) ∧ (128 ≤ b2 ∧ b2 ≤ 191) ∧ (128 ≤ b3 ∧ b3 ≤ 191))) (fun _ i => 4 - (intOf i).toNat)
    case atStart => exact .inl ⟨rfl, rfl⟩
    case round =>
      rcases hrel with ⟨rfl, rfl⟩ | ⟨rfl, rfl, k1⟩ | ⟨rfl, rfl, k1, k2⟩ | ⟨rfl, rfl, k1, k2, k3⟩
      · by_cases hc : 128 ≤ b1 ∧ b1 ≤ 191
        · obtain ⟨q1, q2⟩ := hc
          have i1 : ¬ (b1 : Int) < 128 := by omega
          have i2 : ¬ (191 : Int) < b1 := by omega
          go_wp2
          exact ⟨.inr (.inl ⟨rfl, rfl, ⟨q1, q2⟩⟩), by simp [intOf]⟩
        · have HD : Hid (_ = _) := dn4_bad1 n b0 b1 b2 b3 x1 x2 l1 l2 l3 hc
          by_cases i1 : (b1 : Int) < 128
          · go_wp2
            go_ret2
            exact ⟨ret_dec HD rfl rfl, rfl⟩
          · have i2 : (191 : Int) < b1 := by omega
            go_wp2
            go_ret2
            exact ⟨ret_dec HD rfl rfl, rfl⟩
      · by_cases hc : 128 ≤ b2 ∧ b2 ≤ 191
        · obtain ⟨q1, q2⟩ := hc
          have i1 : ¬ (b2 : Int) < 128 := by omega
          have i2 : ¬ (191 : Int) < b2 := by omega
          go_wp2
          exact ⟨.inr (.inr (.inl ⟨rfl, rfl, k1, ⟨q1, q2⟩⟩)), by simp [intOf]⟩
        · have HD : Hid (_ = _) := dn4_bad2 n b0 b1 b2 b3 x1 x2 l1 l2 l3 hc
          by_cases i1 : (b2 : Int) < 128
          · go_wp2
            go_ret2
            exact ⟨ret_dec HD rfl rfl, rfl⟩
          · have i2 : (191 : Int) < b2 := by omega
            go_wp2
            go_ret2
            exact ⟨ret_dec HD rfl rfl, rfl⟩
      · by_cases hc : 128 ≤ b3 ∧ b3 ≤ 191
        · obtain ⟨q1, q2⟩ := hc
          have i1 : ¬ (b3 : Int) < 128 := by omega
          have i2 : ¬ (191 : Int) < b3 := by omega
          go_wp2
          exact ⟨.inr (.inr (.inr ⟨rfl, rfl, k1, k2, ⟨q1, q2⟩⟩)), by simp [intOf]⟩
        · have HD : Hid (_ = _) := dn4_bad3 n b0 b1 b2 b3 x1 x2 l1 l2 l3 hc
          by_cases i1 : (b3 : Int) < 128
          · go_wp2
            go_ret2
            exact ⟨ret_dec HD rfl rfl, rfl⟩
          · have i2 : (191 : Int) < b3 := by omega
            go_wp2
            go_ret2
            exact ⟨ret_dec HD rfl rfl, rfl⟩
      · have hD := dn4_end n b0 b1 b2 b3 x1 x2 l1 l2 l3 (by omega) k1 k2 k3
        have hcast : (((((b0 % 8) * 64 + b1 % 64) * 64 + b2 % 64) * 64 + b3 % 64 : Nat) : Int) = ((((b0 : Int) % 8) * 64 + (b1 : Int) % 64) * 64 + (b2 : Int) % 64) * 64 + (b3 : Int) % 64 := by push_cast; rfl
        by_cases q : (((b0 % 8) * 64 + b1 % 64) * 64 + b2 % 64) * 64 + b3 % 64 < 65536
        · have i1 : ((((b0 : Int) % 8) * 64 + (b1 : Int) % 64) * 64 + (b2 : Int) % 64) * 64 + (b3 : Int) % 64 < (65536 : Int) := by omega
          rw [if_pos (.inl q)] at hD
          have HD : Hid (_ = _) := hD
          clear hcast q hD
          go_wp2
          go_ret2
          exact ⟨ret_dec HD rfl rfl, rfl⟩
        · have i1 : ¬ ((((b0 : Int) % 8) * 64 + (b1 : Int) % 64) * 64 + (b2 : Int) % 64) * 64 + (b3 : Int) % 64 < (65536 : Int) := by omega
          rw [hcast] at hD
          cases hb : rightB (((((b0 : Int) % 8) * 64 + (b1 : Int) % 64) * 64 + (b2 : Int) % 64) * 64 + (b3 : Int) % 64)
          · rw [if_pos (.inr hb)] at hD
            have HD : Hid (_ = _) := hD
            clear hcast q hD
            go_wp2_with (go_at_call 35; refine (right_any _ _).mono ?_; rintro e w2 ⟨rfl, rfl⟩)
            go_ret2
            exact ⟨ret_dec HD rfl rfl, rfl⟩
          · rw [if_neg (by simp [q, hb])] at hD
            have HD : Hid (_ = _) := hD
            clear hcast q hD
            go_wp2_with (go_at_call 35; refine (right_any _ _).mono ?_; rintro e w2 ⟨rfl, rfl⟩)
            go_ret2
            exact ⟨ret_dec HD (by push_cast; rfl) rfl, rfl⟩

end Go.Proofs.Yteihbpmmjlkkgaa
