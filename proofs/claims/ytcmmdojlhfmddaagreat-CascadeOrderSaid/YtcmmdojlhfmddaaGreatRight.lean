/- Which integers are right code points (the document's own right), masks on integers, and plain facts on the decoder. -/
import Derived.Test.YtcmmdojlhfmddaaGreatSame
namespace Go.Proofs.YtcmmdojlhfmddaaGreat
open Go Go.RowKit Go.Shelf
open Go.Lib (decodeN)
set_option maxHeartbeats 400000 in
theorem right_any (c:Int) (w:World):Calls Tryz.prog 51 #[.int .i64 c] w fun e w' => e = .returned (.bool (rightB c)) ∧ w' = w:=by
 by_cases h1:0 ≤ c
 ·by_cases h2:c ≤ 1114111
  ·by_cases h3:c < 55296
   ·rw [rightB_true ⟨h1,h2,.inl h3⟩]
    go_enter Tryz.func51,Tryz.ntmps51
    go_wp2
    go_ret
    exact ⟨rfl,rfl⟩
   ·by_cases h4:57343 < c
    ·rw [rightB_true ⟨h1,h2,.inr h4⟩]
     go_enter Tryz.func51,Tryz.ntmps51
     go_wp2
     go_ret
     exact ⟨rfl,rfl⟩
    ·rw [rightB_false (by omega)]
     go_enter Tryz.func51,Tryz.ntmps51
     go_wp2
     go_ret
     exact ⟨rfl,rfl⟩
  ·rw [rightB_false (by omega)]
   go_enter Tryz.func51,Tryz.ntmps51
   go_wp2
   go_ret
   exact ⟨rfl,rfl⟩
 ·rw [rightB_false (by omega)]
  go_enter Tryz.func51,Tryz.ntmps51
  go_wp2
  go_ret
  exact ⟨rfl,rfl⟩
theorem ret_dec {n b0 b1 b2 b3:Nat} {a k:Int} {p:Nat × Nat} (h:Hid (decodeN n b0 b1 b2 b3 = p)) (ha:a = (p.1:Int)) (hk:k = (p.2:Int)) :
  Ending.returned (.tuple #[.int .i64 a,.int .i64 k]) = .returned (.tuple #[.int .i64 (decodeN n b0 b1 b2 b3).1,.int .i64 (decodeN n b0 b1 b2 b3).2]):=by
 rw [show decodeN n b0 b1 b2 b3 = p from h,ha,hk]
theorem i64_mask (i m:Nat) (hi:m + 1 = 2 ^ i) (hs:i < 8) (n:Int):bits .and .i64 n m = n % (m + 1:Nat):=by
 have hm:(BitVec.ofInt 64 (m:Int)).toNat = 2 ^ i - 1:=by
  rw [BitVec.toNat_ofInt]
  have:2 ^ i ≤ 2 ^ 7:=Nat.pow_le_pow_right (by decide) (by omega)
  omega
 have key:(BitVec.ofInt 64 n &&& BitVec.ofInt 64 (m:Int)).toNat = (n % ((2 ^ 64:Nat):Int)).toNat % 2 ^ i:=by
  rw [BitVec.toNat_and,BitVec.toNat_ofInt,hm,Nat.and_two_pow_sub_one_eq_mod]
 show IntKind.i64.wrap ((BitVec.ofInt 64 n &&& BitVec.ofInt 64 (m:Int)).toNat:Nat) = _
 rw [key,IntKind.wrap_i64,hi]
 have:i = 0 ∨ i = 1 ∨ i = 2 ∨ i = 3 ∨ i = 4 ∨ i = 5 ∨ i = 6 ∨ i = 7:=by omega
 rcases this with rfl | rfl | rfl | rfl | rfl | rfl | rfl | rfl <;> simp only [Nat.reducePow] <;> omega
theorem i64_and7 (n:Int):bits .and .i64 n 7 = n % 8:=i64_mask 3 7 rfl (by decide) n
theorem i64_and15 (n:Int):bits .and .i64 n 15 = n % 16:=i64_mask 4 15 rfl (by decide) n
theorem i64_and31 (n:Int):bits .and .i64 n 31 = n % 32:=i64_mask 5 31 rfl (by decide) n
theorem i64_and63 (n:Int):bits .and .i64 n 63 = n % 64:=i64_mask 6 63 rfl (by decide) n
theorem dn2_short (n b0 b1 b2 b3:Nat) (x1:194 ≤ b0) (x2:b0 < 224) (h:n < 2):decodeN n b0 b1 b2 b3 = (65533,1):=by
 unfold decodeN
 repeat' split
 all_goals first | rfl | (exfalso;omega)
theorem dn2_bad1 (n b0 b1 b2 b3:Nat) (x1:194 ≤ b0) (x2:b0 < 224) (_l1:b1 < 256) (_l2:b2 < 256) (_l3:b3 < 256) (h:¬ (128 ≤ b1 ∧ b1 ≤ 191)):decodeN n b0 b1 b2 b3 = (65533,1):=by
 unfold decodeN
 repeat' split
 all_goals first | rfl | (exfalso;omega)
theorem dn2_end (n b0 b1 b2 b3:Nat) (x1:194 ≤ b0) (x2:b0 < 224) (_l1:b1 < 256) (_l2:b2 < 256) (_l3:b3 < 256) (hn:2 ≤ n) (k1:(128 ≤ b1 ∧ b1 ≤ 191)):decodeN n b0 b1 b2 b3 = if (b0 % 32) * 64 + b1 % 64 < 128 ∨ rightB (((b0 % 32) * 64 + b1 % 64:Nat):Int) = false then (65533,1) else ((b0 % 32) * 64 + b1 % 64,2):=by
 by_cases hr:0 ≤ (((b0 % 32) * 64 + b1 % 64:Nat):Int) ∧ (((b0 % 32) * 64 + b1 % 64:Nat):Int) ≤ 1114111 ∧ ((((b0 % 32) * 64 + b1 % 64:Nat):Int) < 55296 ∨ 57343 < (((b0 % 32) * 64 + b1 % 64:Nat):Int))
 ·rw [rightB_true hr]
  unfold decodeN
  repeat' split
  all_goals first | rfl | (exfalso;omega) | (simp at * <;> omega)
 ·rw [rightB_false hr]
  unfold decodeN
  repeat' split
  all_goals first | rfl | (exfalso;omega) | (simp at * <;> omega)
theorem dn3_short (n b0 b1 b2 b3:Nat) (x1:224 ≤ b0) (x2:b0 < 240) (h:n < 3):decodeN n b0 b1 b2 b3 = (65533,1):=by
 unfold decodeN
 repeat' split
 all_goals first | rfl | (exfalso;omega)
theorem dn3_bad1 (n b0 b1 b2 b3:Nat) (x1:224 ≤ b0) (x2:b0 < 240) (_l1:b1 < 256) (_l2:b2 < 256) (_l3:b3 < 256) (h:¬ (128 ≤ b1 ∧ b1 ≤ 191)):decodeN n b0 b1 b2 b3 = (65533,1):=by
 unfold decodeN
 repeat' split
 all_goals first | rfl | (exfalso;omega)
theorem dn3_bad2 (n b0 b1 b2 b3:Nat) (x1:224 ≤ b0) (x2:b0 < 240) (_l1:b1 < 256) (_l2:b2 < 256) (_l3:b3 < 256) (h:¬ (128 ≤ b2 ∧ b2 ≤ 191)):decodeN n b0 b1 b2 b3 = (65533,1):=by
 unfold decodeN
 repeat' split
 all_goals first | rfl | (exfalso;omega)
theorem dn3_end (n b0 b1 b2 b3:Nat) (x1:224 ≤ b0) (x2:b0 < 240) (_l1:b1 < 256) (_l2:b2 < 256) (_l3:b3 < 256) (hn:3 ≤ n) (k1:(128 ≤ b1 ∧ b1 ≤ 191)) (k2:(128 ≤ b2 ∧ b2 ≤ 191)):decodeN n b0 b1 b2 b3 = if ((b0 % 16) * 64 + b1 % 64) * 64 + b2 % 64 < 2048 ∨ rightB ((((b0 % 16) * 64 + b1 % 64) * 64 + b2 % 64:Nat):Int) = false then (65533,1) else (((b0 % 16) * 64 + b1 % 64) * 64 + b2 % 64,3):=by
 by_cases hr:0 ≤ ((((b0 % 16) * 64 + b1 % 64) * 64 + b2 % 64:Nat):Int) ∧ ((((b0 % 16) * 64 + b1 % 64) * 64 + b2 % 64:Nat):Int) ≤ 1114111 ∧ (((((b0 % 16) * 64 + b1 % 64) * 64 + b2 % 64:Nat):Int) < 55296 ∨ 57343 < ((((b0 % 16) * 64 + b1 % 64) * 64 + b2 % 64:Nat):Int))
 ·rw [rightB_true hr]
  unfold decodeN
  repeat' split
  all_goals first | rfl | (exfalso;omega) | (simp at * <;> omega)
 ·rw [rightB_false hr]
  unfold decodeN
  repeat' split
  all_goals first | rfl | (exfalso;omega) | (simp at * <;> omega)
theorem dn4_short (n b0 b1 b2 b3:Nat) (x1:240 ≤ b0) (x2:b0 < 245) (h:n < 4):decodeN n b0 b1 b2 b3 = (65533,1):=by
 unfold decodeN
 repeat' split
 all_goals first | rfl | (exfalso;omega)
theorem dn4_bad1 (n b0 b1 b2 b3:Nat) (x1:240 ≤ b0) (x2:b0 < 245) (_l1:b1 < 256) (_l2:b2 < 256) (_l3:b3 < 256) (h:¬ (128 ≤ b1 ∧ b1 ≤ 191)):decodeN n b0 b1 b2 b3 = (65533,1):=by
 unfold decodeN
 repeat' split
 all_goals first | rfl | (exfalso;omega)
theorem dn4_bad2 (n b0 b1 b2 b3:Nat) (x1:240 ≤ b0) (x2:b0 < 245) (_l1:b1 < 256) (_l2:b2 < 256) (_l3:b3 < 256) (h:¬ (128 ≤ b2 ∧ b2 ≤ 191)):decodeN n b0 b1 b2 b3 = (65533,1):=by
 unfold decodeN
 repeat' split
 all_goals first | rfl | (exfalso;omega)
theorem dn4_bad3 (n b0 b1 b2 b3:Nat) (x1:240 ≤ b0) (x2:b0 < 245) (_l1:b1 < 256) (_l2:b2 < 256) (_l3:b3 < 256) (h:¬ (128 ≤ b3 ∧ b3 ≤ 191)):decodeN n b0 b1 b2 b3 = (65533,1):=by
 unfold decodeN
 repeat' split
 all_goals first | rfl | (exfalso;omega)
theorem dn4_end (n b0 b1 b2 b3:Nat) (x1:240 ≤ b0) (x2:b0 < 245) (_l1:b1 < 256) (_l2:b2 < 256) (_l3:b3 < 256) (hn:4 ≤ n) (k1:(128 ≤ b1 ∧ b1 ≤ 191)) (k2:(128 ≤ b2 ∧ b2 ≤ 191)) (k3:(128 ≤ b3 ∧ b3 ≤ 191)):decodeN n b0 b1 b2 b3 = if (((b0 % 8) * 64 + b1 % 64) * 64 + b2 % 64) * 64 + b3 % 64 < 65536 ∨ rightB (((((b0 % 8) * 64 + b1 % 64) * 64 + b2 % 64) * 64 + b3 % 64:Nat):Int) = false then (65533,1) else ((((b0 % 8) * 64 + b1 % 64) * 64 + b2 % 64) * 64 + b3 % 64,4):=by
 by_cases hr:0 ≤ (((((b0 % 8) * 64 + b1 % 64) * 64 + b2 % 64) * 64 + b3 % 64:Nat):Int) ∧ (((((b0 % 8) * 64 + b1 % 64) * 64 + b2 % 64) * 64 + b3 % 64:Nat):Int) ≤ 1114111 ∧ ((((((b0 % 8) * 64 + b1 % 64) * 64 + b2 % 64) * 64 + b3 % 64:Nat):Int) < 55296 ∨ 57343 < (((((b0 % 8) * 64 + b1 % 64) * 64 + b2 % 64) * 64 + b3 % 64:Nat):Int))
 ·rw [rightB_true hr]
  unfold decodeN
  repeat' split
  all_goals first | rfl | (exfalso;omega) | (simp at * <;> omega)
 ·rw [rightB_false hr]
  unfold decodeN
  repeat' split
  all_goals first | rfl | (exfalso;omega) | (simp at * <;> omega)
end Go.Proofs.YtcmmdojlhfmddaaGreat
