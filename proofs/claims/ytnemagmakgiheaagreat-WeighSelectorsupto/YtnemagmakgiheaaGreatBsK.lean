/- Which integers are right code points (the document's own right), masks on integers, and plain facts on the decoder. -/
import Derived.Test.YtnemagmakgiheaaGreatBsB
import Derived.Lib.RuneBytes
import Derived.Laws.OwnMore
set_option maxRecDepth 100000
namespace Go.Proofs.YtnemagmakgiheaaGreat
open Go Go.RowKit Go.Shelf
open Go.Lib (decodeN)
set_option maxHeartbeats 400000 in
theorem right_any (c:Int) (w:World):Calls Tryz.prog 92 #[.int .i64 c] w fun e w' => e = .returned (.bool (rightB c)) ∧ w' = w:=by
 by_cases h1:0 ≤ c
 ·by_cases h2:c ≤ 1114111
  ·by_cases h3:c < 55296
   ·rw [rightB_true ⟨h1,h2,.inl h3⟩]
    go_enter Tryz.func92,Tryz.ntmps92
    go_wp2
    go_ret
    exact ⟨rfl,rfl⟩
   ·by_cases h4:57343 < c
    ·rw [rightB_true ⟨h1,h2,.inr h4⟩]
     go_enter Tryz.func92,Tryz.ntmps92
     go_wp2
     go_ret
     exact ⟨rfl,rfl⟩
    ·rw [rightB_false (by omega)]
     go_enter Tryz.func92,Tryz.ntmps92
     go_wp2
     go_ret
     exact ⟨rfl,rfl⟩
  ·rw [rightB_false (by omega)]
   go_enter Tryz.func92,Tryz.ntmps92
   go_wp2
   go_ret
   exact ⟨rfl,rfl⟩
 ·rw [rightB_false (by omega)]
  go_enter Tryz.func92,Tryz.ntmps92
  go_wp2
  go_ret
  exact ⟨rfl,rfl⟩
theorem ret_dec {n b0 b1 b2 b3:Nat} {a k:Int} {p:Nat × Nat} (h:Hid (decodeN n b0 b1 b2 b3 = p)) (ha:a = (p.1:Int)) (hk:k = (p.2:Int)) :
  Ending.returned (.tuple #[.int .i64 a,.int .i64 k]) = .returned (.tuple #[.int .i64 (decodeN n b0 b1 b2 b3).1,.int .i64 (decodeN n b0 b1 b2 b3).2]):=by
 rw [show decodeN n b0 b1 b2 b3 = p from h,ha,hk]
theorem i64_mask (i m:Nat) (hi:m + 1 = 2 ^ i) (hs:i < 8) (n:Int):bits .and .i64 n m = n % (m + 1:Nat):=by
 have hm:(BitVec.ofInt 64 (m:Int)).toNat = 2 ^ i - 1:=by
  rw [BitVec.toNat_ofInt]
  have:2 ^ i ≤ 2 ^ 7:=Nat.pow_le_pow_right (by decide) (by omega)
  omega
 have key:(BitVec.ofInt 64 n &&& BitVec.ofInt 64 (m:Int)).toNat = (n % ((2 ^ 64:Nat):Int)).toNat % 2 ^ i:=by
  rw [BitVec.toNat_and,BitVec.toNat_ofInt,hm,Nat.and_two_pow_sub_one_eq_mod]
 show IntKind.i64.wrap ((BitVec.ofInt 64 n &&& BitVec.ofInt 64 (m:Int)).toNat:Nat) = _
 rw [key,IntKind.wrap_i64,hi]
 have:i = 0 ∨ i = 1 ∨ i = 2 ∨ i = 3 ∨ i = 4 ∨ i = 5 ∨ i = 6 ∨ i = 7:=by omega
 rcases this with rfl | rfl | rfl | rfl | rfl | rfl | rfl | rfl <;> simp only [Nat.reducePow] <;> omega
theorem i64_and7 (n:Int):bits .and .i64 n 7 = n % 8:=i64_mask 3 7 rfl (by decide) n
theorem i64_and15 (n:Int):bits .and .i64 n 15 = n % 16:=i64_mask 4 15 rfl (by decide) n
theorem i64_and31 (n:Int):bits .and .i64 n 31 = n % 32:=i64_mask 5 31 rfl (by decide) n
theorem i64_and63 (n:Int):bits .and .i64 n 63 = n % 64:=i64_mask 6 63 rfl (by decide) n
theorem dn2_short (n b0 b1 b2 b3:Nat) (x1:194 ≤ b0) (x2:b0 < 224) (h:n < 2):decodeN n b0 b1 b2 b3 = (65533,1):=by
 unfold decodeN
 repeat' split
 all_goals first | rfl | (exfalso;omega)
theorem dn2_bad1 (n b0 b1 b2 b3:Nat) (x1:194 ≤ b0) (x2:b0 < 224) (_l1:b1 < 256) (_l2:b2 < 256) (_l3:b3 < 256) (h:¬ (128 ≤ b1 ∧ b1 ≤ 191)):decodeN n b0 b1 b2 b3 = (65533,1):=by
 unfold decodeN
 repeat' split
 all_goals first | rfl | (exfalso;omega)
theorem dn2_end (n b0 b1 b2 b3:Nat) (x1:194 ≤ b0) (x2:b0 < 224) (_l1:b1 < 256) (_l2:b2 < 256) (_l3:b3 < 256) (hn:2 ≤ n) (k1:(128 ≤ b1 ∧ b1 ≤ 191)):decodeN n b0 b1 b2 b3 = if (b0 % 32) * 64 + b1 % 64 < 128 ∨ rightB (((b0 % 32) * 64 + b1 % 64:Nat):Int) = false then (65533,1) else ((b0 % 32) * 64 + b1 % 64,2):=by
 by_cases hr:0 ≤ (((b0 % 32) * 64 + b1 % 64:Nat):Int) ∧ (((b0 % 32) * 64 + b1 % 64:Nat):Int) ≤ 1114111 ∧ ((((b0 % 32) * 64 + b1 % 64:Nat):Int) < 55296 ∨ 57343 < (((b0 % 32) * 64 + b1 % 64:Nat):Int))
 ·rw [rightB_true hr]
  unfold decodeN
  repeat' split
  all_goals first | rfl | (exfalso;omega) | (simp at * <;> omega)
 ·rw [rightB_false hr]
  unfold decodeN
  repeat' split
  all_goals first | rfl | (exfalso;omega) | (simp at * <;> omega)
theorem dn3_short (n b0 b1 b2 b3:Nat) (x1:224 ≤ b0) (x2:b0 < 240) (h:n < 3):decodeN n b0 b1 b2 b3 = (65533,1):=by
 unfold decodeN
 repeat' split
 all_goals first | rfl | (exfalso;omega)
theorem dn3_bad1 (n b0 b1 b2 b3:Nat) (x1:224 ≤ b0) (x2:b0 < 240) (_l1:b1 < 256) (_l2:b2 < 256) (_l3:b3 < 256) (h:¬ (128 ≤ b1 ∧ b1 ≤ 191)):decodeN n b0 b1 b2 b3 = (65533,1):=by
 unfold decodeN
 repeat' split
 all_goals first | rfl | (exfalso;omega)
theorem dn3_bad2 (n b0 b1 b2 b3:Nat) (x1:224 ≤ b0) (x2:b0 < 240) (_l1:b1 < 256) (_l2:b2 < 256) (_l3:b3 < 256) (h:¬ (128 ≤ b2 ∧ b2 ≤ 191)):decodeN n b0 b1 b2 b3 = (65533,1):=by
 unfold decodeN
 repeat' split
 all_goals first | rfl | (exfalso;omega)
theorem dn3_end (n b0 b1 b2 b3:Nat) (x1:224 ≤ b0) (x2:b0 < 240) (_l1:b1 < 256) (_l2:b2 < 256) (_l3:b3 < 256) (hn:3 ≤ n) (k1:(128 ≤ b1 ∧ b1 ≤ 191)) (k2:(128 ≤ b2 ∧ b2 ≤ 191)):decodeN n b0 b1 b2 b3 = if ((b0 % 16) * 64 + b1 % 64) * 64 + b2 % 64 < 2048 ∨ rightB ((((b0 % 16) * 64 + b1 % 64) * 64 + b2 % 64:Nat):Int) = false then (65533,1) else (((b0 % 16) * 64 + b1 % 64) * 64 + b2 % 64,3):=by
 by_cases hr:0 ≤ ((((b0 % 16) * 64 + b1 % 64) * 64 + b2 % 64:Nat):Int) ∧ ((((b0 % 16) * 64 + b1 % 64) * 64 + b2 % 64:Nat):Int) ≤ 1114111 ∧ (((((b0 % 16) * 64 + b1 % 64) * 64 + b2 % 64:Nat):Int) < 55296 ∨ 57343 < ((((b0 % 16) * 64 + b1 % 64) * 64 + b2 % 64:Nat):Int))
 ·rw [rightB_true hr]
  unfold decodeN
  repeat' split
  all_goals first | rfl | (exfalso;omega) | (simp at * <;> omega)
 ·rw [rightB_false hr]
  unfold decodeN
  repeat' split
  all_goals first | rfl | (exfalso;omega) | (simp at * <;> omega)
theorem dn4_short (n b0 b1 b2 b3:Nat) (x1:240 ≤ b0) (x2:b0 < 245) (h:n < 4):decodeN n b0 b1 b2 b3 = (65533,1):=by
 unfold decodeN
 repeat' split
 all_goals first | rfl | (exfalso;omega)
theorem dn4_bad1 (n b0 b1 b2 b3:Nat) (x1:240 ≤ b0) (x2:b0 < 245) (_l1:b1 < 256) (_l2:b2 < 256) (_l3:b3 < 256) (h:¬ (128 ≤ b1 ∧ b1 ≤ 191)):decodeN n b0 b1 b2 b3 = (65533,1):=by
 unfold decodeN
 repeat' split
 all_goals first | rfl | (exfalso;omega)
theorem dn4_bad2 (n b0 b1 b2 b3:Nat) (x1:240 ≤ b0) (x2:b0 < 245) (_l1:b1 < 256) (_l2:b2 < 256) (_l3:b3 < 256) (h:¬ (128 ≤ b2 ∧ b2 ≤ 191)):decodeN n b0 b1 b2 b3 = (65533,1):=by
 unfold decodeN
 repeat' split
 all_goals first | rfl | (exfalso;omega)
theorem dn4_bad3 (n b0 b1 b2 b3:Nat) (x1:240 ≤ b0) (x2:b0 < 245) (_l1:b1 < 256) (_l2:b2 < 256) (_l3:b3 < 256) (h:¬ (128 ≤ b3 ∧ b3 ≤ 191)):decodeN n b0 b1 b2 b3 = (65533,1):=by
 unfold decodeN
 repeat' split
 all_goals first | rfl | (exfalso;omega)
theorem dn4_end (n b0 b1 b2 b3:Nat) (x1:240 ≤ b0) (x2:b0 < 245) (_l1:b1 < 256) (_l2:b2 < 256) (_l3:b3 < 256) (hn:4 ≤ n) (k1:(128 ≤ b1 ∧ b1 ≤ 191)) (k2:(128 ≤ b2 ∧ b2 ≤ 191)) (k3:(128 ≤ b3 ∧ b3 ≤ 191)):decodeN n b0 b1 b2 b3 = if (((b0 % 8) * 64 + b1 % 64) * 64 + b2 % 64) * 64 + b3 % 64 < 65536 ∨ rightB (((((b0 % 8) * 64 + b1 % 64) * 64 + b2 % 64) * 64 + b3 % 64:Nat):Int) = false then (65533,1) else ((((b0 % 8) * 64 + b1 % 64) * 64 + b2 % 64) * 64 + b3 % 64,4):=by
 by_cases hr:0 ≤ (((((b0 % 8) * 64 + b1 % 64) * 64 + b2 % 64) * 64 + b3 % 64:Nat):Int) ∧ (((((b0 % 8) * 64 + b1 % 64) * 64 + b2 % 64) * 64 + b3 % 64:Nat):Int) ≤ 1114111 ∧ ((((((b0 % 8) * 64 + b1 % 64) * 64 + b2 % 64) * 64 + b3 % 64:Nat):Int) < 55296 ∨ 57343 < (((((b0 % 8) * 64 + b1 % 64) * 64 + b2 % 64) * 64 + b3 % 64:Nat):Int))
 ·rw [rightB_true hr]
  unfold decodeN
  repeat' split
  all_goals first | rfl | (exfalso;omega) | (simp at * <;> omega)
 ·rw [rightB_false hr]
  unfold decodeN
  repeat' split
  all_goals first | rfl | (exfalso;omega) | (simp at * <;> omega)
end Go.Proofs.YtnemagmakgiheaaGreat
/- The bytes of code points: text.Bytes and the document's own Bytes, at every list of integers that is not too long: one list of bytes. -/
namespace Go.Proofs.YtnemagmakgiheaaGreat
open Go Go.RowKit Go.Shelf
theorem infoByte:(Tryz.prog.info? 5).map (fun i => (i.zero,i.size,i.bytes)) = some (some (.int .u8 0),1,1):=by kernel_rfl
theorem cells_new (w:World) (l:List Value) (ty:TypeId):∀ j u,l[j]? = some u → (w.alloc (.cells l.toArray ty)).cell? ((⟨w.heap.size,0,none⟩:Addr).add j) = some u:=fun j u hj => by
 rw [show (⟨w.heap.size,0,none⟩:Addr).add j = ⟨w.heap.size,j,none⟩ from by
  cases j with
  | zero => rfl
  | succ j => simp [Addr.add]]
 rw [cell_of_block (World.alloc_heap_new w _) j]
 simpa using hj
theorem wraps_i64 (n:Int) (h₀:0 ≤ n) (h₁:n < 2 ^ 63):IntKind.i64.wrap n = n:=by rw [IntKind.wrap_i64];omega
theorem or128 {y:Int} (h0:0 ≤ y) (h1:y < 64):bits .or .i64 128 y % 256 = 128 + y:=by
 rw [bits_join .i64 63 (by decide) wraps_i64 6 128 y (by decide) (by decide) (by decide) h0 (by omega) (by omega)]
 omega
theorem or192 {y:Int} (h0:0 ≤ y) (h1:y < 64):bits .or .i64 192 y % 256 = 192 + y:=by
 rw [bits_join .i64 63 (by decide) wraps_i64 6 192 y (by decide) (by decide) (by decide) h0 (by omega) (by omega)]
 omega
theorem or224 {y:Int} (h0:0 ≤ y) (h1:y < 32):bits .or .i64 224 y % 256 = 224 + y:=by
 rw [bits_join .i64 63 (by decide) wraps_i64 5 224 y (by decide) (by decide) (by decide) h0 (by omega) (by omega)]
 omega
theorem or240 {y:Int} (h0:0 ≤ y) (h1:y < 16):bits .or .i64 240 y % 256 = 240 + y:=by
 rw [bits_join .i64 63 (by decide) wraps_i64 4 240 y (by decide) (by decide) (by decide) h0 (by omega) (by omega)]
 omega
set_option maxHeartbeats 2000000 in
theorem put_one (B:Nat) (v:Value) (n:Nat) (xs:List Value) (c:Int) (w:World) (hown:w.ownsRow B 5 1 v n xs) (hlen:n + 4 ≤ 140737488355328) (hBw:B ≤ w.heap.size) (h1:0 ≤ c) (h2:c < 128) :
  Calls Tryz.prog 96 #[v,.int .i64 c] w fun e w' => ∃ v',e = .returned v' ∧ w'.ownsRow B 5 1 v' (n + (Lib.runeCells (fixC c)).length) (xs ++ Lib.runeCells (fixC c)) ∧ ∃ o,(w.alloc o).grownBy w' v.ownBlock:=by
 obtain ⟨i0,hi,hz0,hz1,hz2⟩:=info_parts infoByte
 have hb:rightB c = true:=rightB_true (by omega)
 have HC:Hid (Lib.runeCells (fixC c) = [.int .u8 (c)]):=by
  rw [fixC_yes hb]
  show _ = _
  unfold Lib.runeCells
  rw [Lib.encodeRuneZ_one (by omega) (by omega)]
  rfl
 have m63:=i64_and63
 go_enter Tryz.func96,Tryz.ntmps96
 go_wp2_with (first
  | (go_at_call 92;refine (right_any _ _).mono ?_;rintro e w2 ⟨rfl,rfl⟩)
  | (at_builtin;refine wpList_append_own _ rfl _ _ 84 rfl B 5 i0 (.int .u8 0) 1 1 Tryz.underlying84 hi hz0 hz1 hz2 rfl (by decide) _ _ _ rfl (hown.alloc _) ⟨w2.heap.size,0,none⟩ 1 1 [.int .u8 (c)] rfl rfl (cells_new _ [.int .u8 (c)] _) (fun x hx => by simp at hx;rcases hx with rfl <;> rfl) (by unfold maxLen;omega) (by omega) (by simp;omega) ?_;intro v' w3 hown' hgrow3 hnil3))
 go_ret
 rw [show Lib.runeCells (fixC c) = _ from HC]
 exact ⟨_,rfl,hown',_,hgrow3⟩
set_option maxHeartbeats 2000000 in
theorem put_two (B:Nat) (v:Value) (n:Nat) (xs:List Value) (c:Int) (w:World) (hown:w.ownsRow B 5 1 v n xs) (hlen:n + 4 ≤ 140737488355328) (hBw:B ≤ w.heap.size) (h1:128 ≤ c) (h2:c < 2048) :
  Calls Tryz.prog 96 #[v,.int .i64 c] w fun e w' => ∃ v',e = .returned v' ∧ w'.ownsRow B 5 1 v' (n + (Lib.runeCells (fixC c)).length) (xs ++ Lib.runeCells (fixC c)) ∧ ∃ o,(w.alloc o).grownBy w' v.ownBlock:=by
 obtain ⟨i0,hi,hz0,hz1,hz2⟩:=info_parts infoByte
 have hb:rightB c = true:=rightB_true (by omega)
 have HC:Hid (Lib.runeCells (fixC c) = [.int .u8 (192 + c / 64),.int .u8 (128 + c % 64)]):=by
  rw [fixC_yes hb]
  show _ = _
  unfold Lib.runeCells
  rw [Lib.encodeRuneZ_two (by omega) (by omega)]
  rfl
 have g0:¬ c < 128:=by omega
 have m63:=i64_and63
 have o0:=or192 (y:=c / 64) (by omega) (by omega)
 have o1:=or128 (y:=c % 64) (by omega) (by omega)
 go_enter Tryz.func96,Tryz.ntmps96
 go_wp2_with (first
  | (go_at_call 92;refine (right_any _ _).mono ?_;rintro e w2 ⟨rfl,rfl⟩)
  | (at_builtin;refine wpList_append_own _ rfl _ _ 84 rfl B 5 i0 (.int .u8 0) 1 1 Tryz.underlying84 hi hz0 hz1 hz2 rfl (by decide) _ _ _ rfl (hown.alloc _) ⟨w2.heap.size,0,none⟩ 2 2 [.int .u8 (192 + c / 64),.int .u8 (128 + c % 64)] rfl rfl (cells_new _ [.int .u8 (192 + c / 64),.int .u8 (128 + c % 64)] _) (fun x hx => by simp at hx;rcases hx with rfl | rfl <;> rfl) (by unfold maxLen;omega) (by omega) (by simp;omega) ?_;intro v' w3 hown' hgrow3 hnil3))
 go_ret
 rw [show Lib.runeCells (fixC c) = _ from HC]
 exact ⟨_,rfl,hown',_,hgrow3⟩
set_option maxHeartbeats 2000000 in
theorem put_three (B:Nat) (v:Value) (n:Nat) (xs:List Value) (c:Int) (w:World) (hown:w.ownsRow B 5 1 v n xs) (hlen:n + 4 ≤ 140737488355328) (hBw:B ≤ w.heap.size) (h1:2048 ≤ c) (h2:c < 65536) (h3:c < 55296 ∨ 57343 < c) :
  Calls Tryz.prog 96 #[v,.int .i64 c] w fun e w' => ∃ v',e = .returned v' ∧ w'.ownsRow B 5 1 v' (n + (Lib.runeCells (fixC c)).length) (xs ++ Lib.runeCells (fixC c)) ∧ ∃ o,(w.alloc o).grownBy w' v.ownBlock:=by
 obtain ⟨i0,hi,hz0,hz1,hz2⟩:=info_parts infoByte
 have hb:rightB c = true:=rightB_true (by omega)
 have HC:Hid (Lib.runeCells (fixC c) = [.int .u8 (224 + c / 4096),.int .u8 (128 + c / 64 % 64),.int .u8 (128 + c % 64)]):=by
  rw [fixC_yes hb]
  show _ = _
  unfold Lib.runeCells
  rw [Lib.encodeRuneZ_three (by omega)]
  rfl
 have g0:¬ c < 128:=by omega
 have g1:¬ c < 2048:=by omega
 have m63:=i64_and63
 have o0:=or224 (y:=c / 4096) (by omega) (by omega)
 have o1:=or128 (y:=c / 64 % 64) (by omega) (by omega)
 have o2:=or128 (y:=c % 64) (by omega) (by omega)
 go_enter Tryz.func96,Tryz.ntmps96
 go_wp2_with (first
  | (go_at_call 92;refine (right_any _ _).mono ?_;rintro e w2 ⟨rfl,rfl⟩)
  | (at_builtin;refine wpList_append_own _ rfl _ _ 84 rfl B 5 i0 (.int .u8 0) 1 1 Tryz.underlying84 hi hz0 hz1 hz2 rfl (by decide) _ _ _ rfl (hown.alloc _) ⟨w2.heap.size,0,none⟩ 3 3 [.int .u8 (224 + c / 4096),.int .u8 (128 + c / 64 % 64),.int .u8 (128 + c % 64)] rfl rfl (cells_new _ [.int .u8 (224 + c / 4096),.int .u8 (128 + c / 64 % 64),.int .u8 (128 + c % 64)] _) (fun x hx => by simp at hx;rcases hx with rfl | rfl | rfl <;> rfl) (by unfold maxLen;omega) (by omega) (by simp;omega) ?_;intro v' w3 hown' hgrow3 hnil3))
 go_ret
 rw [show Lib.runeCells (fixC c) = _ from HC]
 exact ⟨_,rfl,hown',_,hgrow3⟩
set_option maxHeartbeats 2000000 in
theorem put_four (B:Nat) (v:Value) (n:Nat) (xs:List Value) (c:Int) (w:World) (hown:w.ownsRow B 5 1 v n xs) (hlen:n + 4 ≤ 140737488355328) (hBw:B ≤ w.heap.size) (h1:65536 ≤ c) (h2:c ≤ 1114111) :
  Calls Tryz.prog 96 #[v,.int .i64 c] w fun e w' => ∃ v',e = .returned v' ∧ w'.ownsRow B 5 1 v' (n + (Lib.runeCells (fixC c)).length) (xs ++ Lib.runeCells (fixC c)) ∧ ∃ o,(w.alloc o).grownBy w' v.ownBlock:=by
 obtain ⟨i0,hi,hz0,hz1,hz2⟩:=info_parts infoByte
 have hb:rightB c = true:=rightB_true (by omega)
 have HC:Hid (Lib.runeCells (fixC c) = [.int .u8 (240 + c / 262144),.int .u8 (128 + c / 4096 % 64),.int .u8 (128 + c / 64 % 64),.int .u8 (128 + c % 64)]):=by
  rw [fixC_yes hb]
  show _ = _
  unfold Lib.runeCells
  rw [Lib.encodeRuneZ_four (by omega) (by omega)]
  rfl
 have g0:¬ c < 128:=by omega
 have g1:¬ c < 2048:=by omega
 have g2:¬ c < 65536:=by omega
 have m63:=i64_and63
 have o0:=or240 (y:=c / 262144) (by omega) (by omega)
 have o1:=or128 (y:=c / 4096 % 64) (by omega) (by omega)
 have o2:=or128 (y:=c / 64 % 64) (by omega) (by omega)
 have o3:=or128 (y:=c % 64) (by omega) (by omega)
 go_enter Tryz.func96,Tryz.ntmps96
 go_wp2_with (first
  | (go_at_call 92;refine (right_any _ _).mono ?_;rintro e w2 ⟨rfl,rfl⟩)
  | (at_builtin;refine wpList_append_own _ rfl _ _ 84 rfl B 5 i0 (.int .u8 0) 1 1 Tryz.underlying84 hi hz0 hz1 hz2 rfl (by decide) _ _ _ rfl (hown.alloc _) ⟨w2.heap.size,0,none⟩ 4 4 [.int .u8 (240 + c / 262144),.int .u8 (128 + c / 4096 % 64),.int .u8 (128 + c / 64 % 64),.int .u8 (128 + c % 64)] rfl rfl (cells_new _ [.int .u8 (240 + c / 262144),.int .u8 (128 + c / 4096 % 64),.int .u8 (128 + c / 64 % 64),.int .u8 (128 + c % 64)] _) (fun x hx => by simp at hx;rcases hx with rfl | rfl | rfl | rfl <;> rfl) (by unfold maxLen;omega) (by omega) (by simp;omega) ?_;intro v' w3 hown' hgrow3 hnil3))
 go_ret
 rw [show Lib.runeCells (fixC c) = _ from HC]
 exact ⟨_,rfl,hown',_,hgrow3⟩
set_option maxHeartbeats 2000000 in
theorem put_bad (B:Nat) (v:Value) (n:Nat) (xs:List Value) (c:Int) (w:World) (hown:w.ownsRow B 5 1 v n xs) (hlen:n + 4 ≤ 140737488355328) (hBw:B ≤ w.heap.size) (h1:rightB c = false) :
  Calls Tryz.prog 96 #[v,.int .i64 c] w fun e w' => ∃ v',e = .returned v' ∧ w'.ownsRow B 5 1 v' (n + (Lib.runeCells (fixC c)).length) (xs ++ Lib.runeCells (fixC c)) ∧ ∃ o,(w.alloc o).grownBy w' v.ownBlock:=by
 obtain ⟨i0,hi,hz0,hz1,hz2⟩:=info_parts infoByte
 have hb:rightB c = false:=h1
 have HC:Hid (Lib.runeCells (fixC c) = [.int .u8 (239),.int .u8 (191),.int .u8 (189)]):=by
  rw [fixC_no hb]
  show _ = _
  unfold Lib.runeCells
  rw [Lib.encodeRuneZ_three (by omega)]
  rfl
 have m63:=i64_and63
 have o0:=or224 (y:=15) (by omega) (by omega)
 have o1:=or128 (y:=63) (by omega) (by omega)
 have o2:=or128 (y:=61) (by omega) (by omega)
 go_enter Tryz.func96,Tryz.ntmps96
 go_wp2_with (first
  | (go_at_call 92;refine (right_any _ _).mono ?_;rintro e w2 ⟨rfl,rfl⟩)
  | (at_builtin;refine wpList_append_own _ rfl _ _ 84 rfl B 5 i0 (.int .u8 0) 1 1 Tryz.underlying84 hi hz0 hz1 hz2 rfl (by decide) _ _ _ rfl (hown.alloc _) ⟨w2.heap.size,0,none⟩ 3 3 [.int .u8 (239),.int .u8 (191),.int .u8 (189)] rfl rfl (cells_new _ [.int .u8 (239),.int .u8 (191),.int .u8 (189)] _) (fun x hx => by simp at hx;rcases hx with rfl | rfl | rfl <;> rfl) (by unfold maxLen;omega) (by omega) (by simp;omega) ?_;intro v' w3 hown' hgrow3 hnil3))
 go_ret
 rw [show Lib.runeCells (fixC c) = _ from HC]
 exact ⟨_,rfl,hown',_,hgrow3⟩
theorem put_any (B:Nat) (v:Value) (n:Nat) (xs:List Value) (c:Int) (w:World) (hown:w.ownsRow B 5 1 v n xs) (hlen:n + 4 ≤ 140737488355328) (hBw:B ≤ w.heap.size) :
  Calls Tryz.prog 96 #[v,.int .i64 c] w fun e w' => ∃ v',e = .returned v' ∧ w'.ownsRow B 5 1 v' (n + (Lib.runeCells (fixC c)).length) (xs ++ Lib.runeCells (fixC c)) ∧ ∃ o,(w.alloc o).grownBy w' v.ownBlock:=by
 cases hb:rightB c
 ·exact put_bad B v n xs c w hown hlen hBw hb
 ·obtain ⟨h0,h1,h2⟩:=rightB_iff.1 hb
  by_cases g1:c < 128
  ·exact put_one B v n xs c w hown hlen hBw h0 g1
  ·by_cases g2:c < 2048
   ·exact put_two B v n xs c w hown hlen hBw (by omega) g2
   ·by_cases g3:c < 65536
    ·exact put_three B v n xs c w hown hlen hBw (by omega) g3 h2
    ·exact put_four B v n xs c w hown hlen hBw (by omega) h1
/-! ### The bytes of a list -/
def ubytes (l:List UInt8):List Value:=l.map fun u => Value.int .u8 u.toNat
def enc1 (c:Int):List UInt8:=Lib.encodeRune (fixC c)
def encs (l:List Int):List UInt8:=l.flatMap enc1
theorem ubytes_enc1 (c:Int):ubytes (enc1 c) = Lib.runeCells (fixC c):=by
 rw [← Lib.byteCells_encodeRune]
 rfl
theorem enc1_len (c:Int):1 ≤ (enc1 c).length ∧ (enc1 c).length ≤ 4:=by
 unfold enc1
 rw [← Lib.runeCells_length]
 exact Lib.runeCells_le _
theorem encs_snoc (l:List Int) (c:Int):encs (l ++ [c]) = encs l ++ enc1 c:=by simp [encs]
theorem encs_len (l:List Int):(encs l).length ≤ 4 * l.length:=by
 induction l with
 | nil => simp [encs]
 | cons c t ih =>
  have:=enc1_len c
  have e:encs (c :: t) = enc1 c ++ encs t:=by simp [encs]
  rw [e]
  simp
  omega
theorem ubytes_append (a b:List UInt8):ubytes (a ++ b) = ubytes a ++ ubytes b:=by simp [ubytes]
theorem ubytes_length (a:List UInt8):(ubytes a).length = a.length:=by simp [ubytes]
theorem BytesAt.of_owns {X:World} {b:Nat} {e:TypeId} {v:Value} {l:List UInt8} {m:Nat} (h:X.ownsRow b e 1 v m (ubytes l)) (hm:m = l.length):BytesAt X.heap.size X v l:=by
 subst hm
 rcases owns_cells h with ⟨rfl,h2,h3⟩ | ⟨g,cap,rfl,h1,h2,h3,h4,h5⟩
 ·exact .inl ⟨List.length_eq_zero_iff.1 h2,.inl rfl⟩
 ·exact .inr ⟨g,0,cap,rfl,h1,h2,h4,fun j u hj => h5 j _ (by unfold ubytes;rw [List.getElem?_map,hj];rfl)⟩
theorem below_grown {w X Y:World} {e:TypeId} {size:Nat} {v:Value} {k:Nat} {xs:List Value} {o:Obj} (hb:Below w.heap.size w X) (hrow:X.ownsRow w.heap.size e size v k xs) (hg:(X.alloc o).grownBy Y v.ownBlock):Below w.heap.size w Y:=
 (hb.alloc hb.size o).grown hg (by have:=hb.size;simp;omega) (fun j ej => (hrow.lt j ej).1)
end Go.Proofs.YtnemagmakgiheaaGreat
/- The document's own point: the code point at the head of a slice of bytes, and its width: it is what the library's decoder tells. -/
namespace Go.Proofs.YtnemagmakgiheaaGreat
open Go Go.RowKit Go.Shelf
open Go.Lib (decodeN)
set_option maxHeartbeats 2000000 in
theorem point_2 (n b0 b1 b2 b3 bk off cap:Nat) (w:World) (hn:1 ≤ n) (hm:n ≤ maxLen) (l1:b1 < 256) (l2:b2 < 256) (l3:b3 < 256) (x1:194 ≤ b0) (x2:b0 < 224)
  (h0:w.cell? ⟨bk,off,none⟩ = some (.int .u8 b0)) (h1:1 < n → w.cell? ⟨bk,off + 1,none⟩ = some (.int .u8 b1)) (_h2:2 < n → w.cell? ⟨bk,off + 2,none⟩ = some (.int .u8 b2)) (_h3:3 < n → w.cell? ⟨bk,off + 3,none⟩ = some (.int .u8 b3)) :
  Calls Tryz.prog 98 #[.slice (some ⟨bk,off,none⟩) n cap] w fun e w' => e = .returned (.tuple #[.int .i64 (decodeN n b0 b1 b2 b3).1,.int .i64 (decodeN n b0 b1 b2 b3).2]) ∧ w' = w:=by
 unfold maxLen at hm
 have g0:¬ (b0:Int) < 128:=by omega
 have gn:(0:Int) < n:=by omega
 have ga194: (194:Int) ≤ b0:=by omega
 have gb224: (b0:Int) < 224:=by omega
 have ga224:¬ (224:Int) ≤ b0:=by omega
 have gb240: (b0:Int) < 240:=by omega
 have ga240:¬ (240:Int) ≤ b0:=by omega
 have gb245: (b0:Int) < 245:=by omega
 have m31:=i64_and31
 have m63:=i64_and63
 by_cases hs:(n:Int) < 2
 ·have HD:Hid (_ = _):=dn2_short n b0 b1 b2 b3 x1 x2 (by omega)
  go_enter Tryz.func98,Tryz.ntmps98
  go_wp2
  go_ret2
  exact ⟨ret_dec HD rfl rfl,rfl⟩
 ·have c1:=h1 (by omega)
  have ge:(2:Int) ≤ n:=by omega
  clear h1 _h2 _h3
  go_enter Tryz.func98,Tryz.ntmps98
  go_wp2
  go_loop [7,8] (fun c i => (i = .int .i64 1 ∧ c = .int .i64 ((b0:Int) % 32)) ∨ (i = .int .i64 2 ∧ c = .int .i64 (((b0:Int) % 32) * 64 + (b1:Int) % 64) ∧ (128 ≤ b1 ∧ b1 ≤ 191))) (fun _ i => 2 - (intOf i).toNat)
  case atStart => exact .inl ⟨rfl,rfl⟩
  case round =>
   rcases hrel with ⟨rfl,rfl⟩ | ⟨rfl,rfl,k1⟩
   ·by_cases hc:128 ≤ b1 ∧ b1 ≤ 191
    ·obtain ⟨q1,q2⟩:=hc
     have i1:¬ (b1:Int) < 128:=by omega
     have i2:¬ (191:Int) < b1:=by omega
     go_wp2
     exact ⟨.inr ⟨rfl,rfl,⟨q1,q2⟩⟩,by simp [intOf]⟩
    ·have HD:Hid (_ = _):=dn2_bad1 n b0 b1 b2 b3 x1 x2 l1 l2 l3 hc
     by_cases i1:(b1:Int) < 128
     ·go_wp2
      go_ret2
      exact ⟨ret_dec HD rfl rfl,rfl⟩
     ·have i2:(191:Int) < b1:=by omega
      go_wp2
      go_ret2
      exact ⟨ret_dec HD rfl rfl,rfl⟩
   ·have hD:=dn2_end n b0 b1 b2 b3 x1 x2 l1 l2 l3 (by omega) k1
    have hcast:(((b0 % 32) * 64 + b1 % 64:Nat):Int) = ((b0:Int) % 32) * 64 + (b1:Int) % 64:=by push_cast;rfl
    by_cases q:(b0 % 32) * 64 + b1 % 64 < 128
    ·have i1:((b0:Int) % 32) * 64 + (b1:Int) % 64 < (128:Int):=by omega
     rw [if_pos (.inl q)] at hD
     have HD:Hid (_ = _):=hD
     clear hcast q hD
     go_wp2
     go_ret2
     exact ⟨ret_dec HD rfl rfl,rfl⟩
    ·have i1:¬ ((b0:Int) % 32) * 64 + (b1:Int) % 64 < (128:Int):=by omega
     rw [hcast] at hD
     cases hb:rightB (((b0:Int) % 32) * 64 + (b1:Int) % 64)
     ·rw [if_pos (.inr hb)] at hD
      have HD:Hid (_ = _):=hD
      clear hcast q hD
      go_wp2_with (go_at_call 92;refine (right_any _ _).mono ?_;rintro e w2 ⟨rfl,rfl⟩)
      go_ret2
      exact ⟨ret_dec HD rfl rfl,rfl⟩
     ·rw [if_neg (by simp [q,hb])] at hD
      have HD:Hid (_ = _):=hD
      clear hcast q hD
      go_wp2_with (go_at_call 92;refine (right_any _ _).mono ?_;rintro e w2 ⟨rfl,rfl⟩)
      go_ret2
      exact ⟨ret_dec HD (by push_cast;rfl) rfl,rfl⟩
set_option maxHeartbeats 2000000 in
theorem point_3 (n b0 b1 b2 b3 bk off cap:Nat) (w:World) (hn:1 ≤ n) (hm:n ≤ maxLen) (l1:b1 < 256) (l2:b2 < 256) (l3:b3 < 256) (x1:224 ≤ b0) (x2:b0 < 240)
  (h0:w.cell? ⟨bk,off,none⟩ = some (.int .u8 b0)) (h1:1 < n → w.cell? ⟨bk,off + 1,none⟩ = some (.int .u8 b1)) (h2:2 < n → w.cell? ⟨bk,off + 2,none⟩ = some (.int .u8 b2)) (_h3:3 < n → w.cell? ⟨bk,off + 3,none⟩ = some (.int .u8 b3)) :
  Calls Tryz.prog 98 #[.slice (some ⟨bk,off,none⟩) n cap] w fun e w' => e = .returned (.tuple #[.int .i64 (decodeN n b0 b1 b2 b3).1,.int .i64 (decodeN n b0 b1 b2 b3).2]) ∧ w' = w:=by
 unfold maxLen at hm
 have g0:¬ (b0:Int) < 128:=by omega
 have gn:(0:Int) < n:=by omega
 have ga194: (194:Int) ≤ b0:=by omega
 have gb224:¬ (b0:Int) < 224:=by omega
 have ga224: (224:Int) ≤ b0:=by omega
 have gb240: (b0:Int) < 240:=by omega
 have ga240:¬ (240:Int) ≤ b0:=by omega
 have gb245: (b0:Int) < 245:=by omega
 have m15:=i64_and15
 have m63:=i64_and63
 by_cases hs:(n:Int) < 3
 ·have HD:Hid (_ = _):=dn3_short n b0 b1 b2 b3 x1 x2 (by omega)
  go_enter Tryz.func98,Tryz.ntmps98
  go_wp2
  go_ret2
  exact ⟨ret_dec HD rfl rfl,rfl⟩
 ·have c1:=h1 (by omega)
  have c2:=h2 (by omega)
  have ge:(3:Int) ≤ n:=by omega
  clear h1 h2 _h3
  go_enter Tryz.func98,Tryz.ntmps98
  go_wp2
  go_loop [7,8] (fun c i => (i = .int .i64 1 ∧ c = .int .i64 ((b0:Int) % 16)) ∨ (i = .int .i64 2 ∧ c = .int .i64 (((b0:Int) % 16) * 64 + (b1:Int) % 64) ∧ (128 ≤ b1 ∧ b1 ≤ 191)) ∨ (i = .int .i64 3 ∧ c = .int .i64 ((((b0:Int) % 16) * 64 + (b1:Int) % 64) * 64 + (b2:Int) % 64) ∧ (128 ≤ b1 ∧ b1 ≤ 191) ∧ (128 ≤ b2 ∧ b2 ≤ 191))) (fun _ i => 3 - (intOf i).toNat)
  case atStart => exact .inl ⟨rfl,rfl⟩
  case round =>
   rcases hrel with ⟨rfl,rfl⟩ | ⟨rfl,rfl,k1⟩ | ⟨rfl,rfl,k1,k2⟩
   ·by_cases hc:128 ≤ b1 ∧ b1 ≤ 191
    ·obtain ⟨q1,q2⟩:=hc
     have i1:¬ (b1:Int) < 128:=by omega
     have i2:¬ (191:Int) < b1:=by omega
     go_wp2
     exact ⟨.inr (.inl ⟨rfl,rfl,⟨q1,q2⟩⟩),by simp [intOf]⟩
    ·have HD:Hid (_ = _):=dn3_bad1 n b0 b1 b2 b3 x1 x2 l1 l2 l3 hc
     by_cases i1:(b1:Int) < 128
     ·go_wp2
      go_ret2
      exact ⟨ret_dec HD rfl rfl,rfl⟩
     ·have i2:(191:Int) < b1:=by omega
      go_wp2
      go_ret2
      exact ⟨ret_dec HD rfl rfl,rfl⟩
   ·by_cases hc:128 ≤ b2 ∧ b2 ≤ 191
    ·obtain ⟨q1,q2⟩:=hc
     have i1:¬ (b2:Int) < 128:=by omega
     have i2:¬ (191:Int) < b2:=by omega
     go_wp2
     exact ⟨.inr (.inr ⟨rfl,rfl,k1,⟨q1,q2⟩⟩),by simp [intOf]⟩
    ·have HD:Hid (_ = _):=dn3_bad2 n b0 b1 b2 b3 x1 x2 l1 l2 l3 hc
     by_cases i1:(b2:Int) < 128
     ·go_wp2
      go_ret2
      exact ⟨ret_dec HD rfl rfl,rfl⟩
     ·have i2:(191:Int) < b2:=by omega
      go_wp2
      go_ret2
      exact ⟨ret_dec HD rfl rfl,rfl⟩
   ·have hD:=dn3_end n b0 b1 b2 b3 x1 x2 l1 l2 l3 (by omega) k1 k2
    have hcast:((((b0 % 16) * 64 + b1 % 64) * 64 + b2 % 64:Nat):Int) = (((b0:Int) % 16) * 64 + (b1:Int) % 64) * 64 + (b2:Int) % 64:=by push_cast;rfl
    by_cases q:((b0 % 16) * 64 + b1 % 64) * 64 + b2 % 64 < 2048
    ·have i1:(((b0:Int) % 16) * 64 + (b1:Int) % 64) * 64 + (b2:Int) % 64 < (2048:Int):=by omega
     rw [if_pos (.inl q)] at hD
     have HD:Hid (_ = _):=hD
     clear hcast q hD
     go_wp2
     go_ret2
     exact ⟨ret_dec HD rfl rfl,rfl⟩
    ·have i1:¬ (((b0:Int) % 16) * 64 + (b1:Int) % 64) * 64 + (b2:Int) % 64 < (2048:Int):=by omega
     rw [hcast] at hD
     cases hb:rightB ((((b0:Int) % 16) * 64 + (b1:Int) % 64) * 64 + (b2:Int) % 64)
     ·rw [if_pos (.inr hb)] at hD
      have HD:Hid (_ = _):=hD
      clear hcast q hD
      go_wp2_with (go_at_call 92;refine (right_any _ _).mono ?_;rintro e w2 ⟨rfl,rfl⟩)
      go_ret2
      exact ⟨ret_dec HD rfl rfl,rfl⟩
     ·rw [if_neg (by simp [q,hb])] at hD
      have HD:Hid (_ = _):=hD
      clear hcast q hD
      go_wp2_with (go_at_call 92;refine (right_any _ _).mono ?_;rintro e w2 ⟨rfl,rfl⟩)
      go_ret2
      exact ⟨ret_dec HD (by push_cast;rfl) rfl,rfl⟩
set_option maxHeartbeats 2000000 in
theorem point_4 (n b0 b1 b2 b3 bk off cap:Nat) (w:World) (hn:1 ≤ n) (hm:n ≤ maxLen) (l1:b1 < 256) (l2:b2 < 256) (l3:b3 < 256) (x1:240 ≤ b0) (x2:b0 < 245)
  (h0:w.cell? ⟨bk,off,none⟩ = some (.int .u8 b0)) (h1:1 < n → w.cell? ⟨bk,off + 1,none⟩ = some (.int .u8 b1)) (h2:2 < n → w.cell? ⟨bk,off + 2,none⟩ = some (.int .u8 b2)) (h3:3 < n → w.cell? ⟨bk,off + 3,none⟩ = some (.int .u8 b3)) :
  Calls Tryz.prog 98 #[.slice (some ⟨bk,off,none⟩) n cap] w fun e w' => e = .returned (.tuple #[.int .i64 (decodeN n b0 b1 b2 b3).1,.int .i64 (decodeN n b0 b1 b2 b3).2]) ∧ w' = w:=by
 unfold maxLen at hm
 have g0:¬ (b0:Int) < 128:=by omega
 have gn:(0:Int) < n:=by omega
 have ga194: (194:Int) ≤ b0:=by omega
 have gb224:¬ (b0:Int) < 224:=by omega
 have ga224: (224:Int) ≤ b0:=by omega
 have gb240:¬ (b0:Int) < 240:=by omega
 have ga240: (240:Int) ≤ b0:=by omega
 have gb245: (b0:Int) < 245:=by omega
 have m7:=i64_and7
 have m63:=i64_and63
 by_cases hs:(n:Int) < 4
 ·have HD:Hid (_ = _):=dn4_short n b0 b1 b2 b3 x1 x2 (by omega)
  go_enter Tryz.func98,Tryz.ntmps98
  go_wp2
  go_ret2
  exact ⟨ret_dec HD rfl rfl,rfl⟩
 ·have c1:=h1 (by omega)
  have c2:=h2 (by omega)
  have c3:=h3 (by omega)
  have ge:(4:Int) ≤ n:=by omega
  clear h1 h2 h3
  go_enter Tryz.func98,Tryz.ntmps98
  go_wp2
  go_loop [7,8] (fun c i => (i = .int .i64 1 ∧ c = .int .i64 ((b0:Int) % 8)) ∨ (i = .int .i64 2 ∧ c = .int .i64 (((b0:Int) % 8) * 64 + (b1:Int) % 64) ∧ (128 ≤ b1 ∧ b1 ≤ 191)) ∨ (i = .int .i64 3 ∧ c = .int .i64 ((((b0:Int) % 8) * 64 + (b1:Int) % 64) * 64 + (b2:Int) % 64) ∧ (128 ≤ b1 ∧ b1 ≤ 191) ∧ (128 ≤ b2 ∧ b2 ≤ 191)) ∨ (i = .int .i64 4 ∧ c = .int .i64 (((((b0:Int) % 8) * 64 + (b1:Int) % 64) * 64 + (b2:Int) % 64) * 64 + (b3:Int) % 64) ∧ (128 ≤ b1 ∧ b1 ≤ 191) ∧ (128 ≤ b2 ∧ b2 ≤ 191) ∧ (128 ≤ b3 ∧ b3 ≤ 191))) (fun _ i => 4 - (intOf i).toNat)
  case atStart => exact .inl ⟨rfl,rfl⟩
  case round =>
   rcases hrel with ⟨rfl,rfl⟩ | ⟨rfl,rfl,k1⟩ | ⟨rfl,rfl,k1,k2⟩ | ⟨rfl,rfl,k1,k2,k3⟩
   ·by_cases hc:128 ≤ b1 ∧ b1 ≤ 191
    ·obtain ⟨q1,q2⟩:=hc
     have i1:¬ (b1:Int) < 128:=by omega
     have i2:¬ (191:Int) < b1:=by omega
     go_wp2
     exact ⟨.inr (.inl ⟨rfl,rfl,⟨q1,q2⟩⟩),by simp [intOf]⟩
    ·have HD:Hid (_ = _):=dn4_bad1 n b0 b1 b2 b3 x1 x2 l1 l2 l3 hc
     by_cases i1:(b1:Int) < 128
     ·go_wp2
      go_ret2
      exact ⟨ret_dec HD rfl rfl,rfl⟩
     ·have i2:(191:Int) < b1:=by omega
      go_wp2
      go_ret2
      exact ⟨ret_dec HD rfl rfl,rfl⟩
   ·by_cases hc:128 ≤ b2 ∧ b2 ≤ 191
    ·obtain ⟨q1,q2⟩:=hc
     have i1:¬ (b2:Int) < 128:=by omega
     have i2:¬ (191:Int) < b2:=by omega
     go_wp2
     exact ⟨.inr (.inr (.inl ⟨rfl,rfl,k1,⟨q1,q2⟩⟩)),by simp [intOf]⟩
    ·have HD:Hid (_ = _):=dn4_bad2 n b0 b1 b2 b3 x1 x2 l1 l2 l3 hc
     by_cases i1:(b2:Int) < 128
     ·go_wp2
      go_ret2
      exact ⟨ret_dec HD rfl rfl,rfl⟩
     ·have i2:(191:Int) < b2:=by omega
      go_wp2
      go_ret2
      exact ⟨ret_dec HD rfl rfl,rfl⟩
   ·by_cases hc:128 ≤ b3 ∧ b3 ≤ 191
    ·obtain ⟨q1,q2⟩:=hc
     have i1:¬ (b3:Int) < 128:=by omega
     have i2:¬ (191:Int) < b3:=by omega
     go_wp2
     exact ⟨.inr (.inr (.inr ⟨rfl,rfl,k1,k2,⟨q1,q2⟩⟩)),by simp [intOf]⟩
    ·have HD:Hid (_ = _):=dn4_bad3 n b0 b1 b2 b3 x1 x2 l1 l2 l3 hc
     by_cases i1:(b3:Int) < 128
     ·go_wp2
      go_ret2
      exact ⟨ret_dec HD rfl rfl,rfl⟩
     ·have i2:(191:Int) < b3:=by omega
      go_wp2
      go_ret2
      exact ⟨ret_dec HD rfl rfl,rfl⟩
   ·have hD:=dn4_end n b0 b1 b2 b3 x1 x2 l1 l2 l3 (by omega) k1 k2 k3
    have hcast:(((((b0 % 8) * 64 + b1 % 64) * 64 + b2 % 64) * 64 + b3 % 64:Nat):Int) = ((((b0:Int) % 8) * 64 + (b1:Int) % 64) * 64 + (b2:Int) % 64) * 64 + (b3:Int) % 64:=by push_cast;rfl
    by_cases q:(((b0 % 8) * 64 + b1 % 64) * 64 + b2 % 64) * 64 + b3 % 64 < 65536
    ·have i1:((((b0:Int) % 8) * 64 + (b1:Int) % 64) * 64 + (b2:Int) % 64) * 64 + (b3:Int) % 64 < (65536:Int):=by omega
     rw [if_pos (.inl q)] at hD
     have HD:Hid (_ = _):=hD
     clear hcast q hD
     go_wp2
     go_ret2
     exact ⟨ret_dec HD rfl rfl,rfl⟩
    ·have i1:¬ ((((b0:Int) % 8) * 64 + (b1:Int) % 64) * 64 + (b2:Int) % 64) * 64 + (b3:Int) % 64 < (65536:Int):=by omega
     rw [hcast] at hD
     cases hb:rightB (((((b0:Int) % 8) * 64 + (b1:Int) % 64) * 64 + (b2:Int) % 64) * 64 + (b3:Int) % 64)
     ·rw [if_pos (.inr hb)] at hD
      have HD:Hid (_ = _):=hD
      clear hcast q hD
      go_wp2_with (go_at_call 92;refine (right_any _ _).mono ?_;rintro e w2 ⟨rfl,rfl⟩)
      go_ret2
      exact ⟨ret_dec HD rfl rfl,rfl⟩
     ·rw [if_neg (by simp [q,hb])] at hD
      have HD:Hid (_ = _):=hD
      clear hcast q hD
      go_wp2_with (go_at_call 92;refine (right_any _ _).mono ?_;rintro e w2 ⟨rfl,rfl⟩)
      go_ret2
      exact ⟨ret_dec HD (by push_cast;rfl) rfl,rfl⟩
end Go.Proofs.YtnemagmakgiheaaGreat
/- The document's own Points and Prepare, at every slice of bytes that is not too long: the same lists. -/
namespace Go.Proofs.YtnemagmakgiheaaGreat
open Go Go.RowKit Go.Shelf
open Go.Lib (decodeN)
set_option maxHeartbeats 2000000 in
theorem point_small (n b0 b1 b2 b3 bk off cap:Nat) (w:World) (hn:1 ≤ n) (hm:n ≤ maxLen) (h0:w.cell? ⟨bk,off,none⟩ = some (.int .u8 b0)) (l0:b0 < 256) (hx:b0 < 194 ∨ 245 ≤ b0) :
  Calls Tryz.prog 98 #[.slice (some ⟨bk,off,none⟩) n cap] w fun e w' => e = .returned (.tuple #[.int .i64 (decodeN n b0 b1 b2 b3).1,.int .i64 (decodeN n b0 b1 b2 b3).2]) ∧ w' = w:=by
 unfold maxLen at hm
 have gn:(0:Int) < n:=by omega
 by_cases h1:b0 < 128
 ·have HD:Hid (decodeN n b0 b1 b2 b3 = (b0,1)):=by
   unfold decodeN
   rw [if_pos h1]
   rfl
  have g0:(b0:Int) < 128:=by omega
  go_enter Tryz.func98,Tryz.ntmps98
  go_wp2
  go_ret2
  exact ⟨ret_dec HD rfl rfl,rfl⟩
 ·have HD:Hid (decodeN n b0 b1 b2 b3 = (65533,1)):=by
   show decodeN n b0 b1 b2 b3 = (65533,1)
   unfold decodeN
   repeat' split
   all_goals first | rfl | (exfalso;omega)
  have g0:¬ (b0:Int) < 128:=by omega
  rcases hx with hx | hx
  ·have g1:¬ (194:Int) ≤ b0:=by omega
   have g2:¬ (224:Int) ≤ b0:=by omega
   have g3:¬ (240:Int) ≤ b0:=by omega
   go_enter Tryz.func98,Tryz.ntmps98
   go_wp2
   go_ret2
   exact ⟨ret_dec HD rfl rfl,rfl⟩
  ·have g1:(194:Int) ≤ b0:=by omega
   have g2:(224:Int) ≤ b0:=by omega
   have g3:(240:Int) ≤ b0:=by omega
   have g4:¬ (b0:Int) < 224:=by omega
   have g5:¬ (b0:Int) < 240:=by omega
   have g6:¬ (b0:Int) < 245:=by omega
   go_enter Tryz.func98,Tryz.ntmps98
   go_wp2
   go_ret2
   exact ⟨ret_dec HD rfl rfl,rfl⟩
theorem point_any (l:List UInt8) (bk off cap:Nat) (w:World) (hl:l ≠ []) (hm:l.length ≤ maxLen) (hp:∀ j u,l[j]? = some u → w.cell? ⟨bk,off + j,none⟩ = some (.int .u8 u.toNat)) :
  Calls Tryz.prog 98 #[.slice (some ⟨bk,off,none⟩) l.length cap] w fun e w' => e = .returned (.tuple #[.int .i64 (dec l).1,.int .i64 (dec l).2]) ∧ w' = w:=by
 rw [dec_eq hl]
 have hpos:=List.length_pos_iff.2 hl
 have hc:∀ j,j < l.length → w.cell? ⟨bk,off + j,none⟩ = some (.int .u8 (l[j]?.getD 0).toNat):=fun j hj => by
  have:=hp j _ (List.getElem?_eq_getElem hj)
  rw [List.getElem?_eq_getElem hj]
  exact this
 have h0:w.cell? ⟨bk,off,none⟩ = some (.int .u8 (l[0]?.getD 0).toNat):=hc 0 hpos
 have b:=fun j:Nat => (l[j]?.getD 0).toNat_lt
 by_cases h1:(l[0]?.getD 0).toNat < 194 ∨ 245 ≤ (l[0]?.getD 0).toNat
 ·exact point_small _ _ _ _ _ bk off cap w hpos hm h0 (b 0) h1
 ·by_cases h2:(l[0]?.getD 0).toNat < 224
  ·exact point_2 _ _ _ _ _ bk off cap w hpos hm (b 1) (b 2) (b 3) (by omega) h2 h0 (hc 1) (hc 2) (hc 3)
  ·by_cases h3:(l[0]?.getD 0).toNat < 240
   ·exact point_3 _ _ _ _ _ bk off cap w hpos hm (b 1) (b 2) (b 3) (by omega) h3 h0 (hc 1) (hc 2) (hc 3)
   ·exact point_4 _ _ _ _ _ bk off cap w hpos hm (b 1) (b 2) (b 3) (by omega) (by omega) h0 (hc 1) (hc 2) (hc 3)
theorem below_appended {w X Y:World} {e:TypeId} {size:Nat} {v:Value} {k:Nat} {xs:List Value} {tmp:Obj} (hb:Below w.heap.size w X) (hrow:X.ownsRow w.heap.size e size v k xs) (hg:(X.alloc tmp).grownBy Y v.ownBlock):Below w.heap.size w Y:=
 (hb.alloc hb.size tmp).grown hg (by have:=hb.size;simp;omega) (fun j ej => (hrow.lt j ej).1)
set_option maxHeartbeats 2000000 in
theorem refPoints_any (v:Value) (bs:List UInt8) (w:World) (hB:BytesAt w.heap.size w v bs) (hl:bs.length ≤ 1000000) :
  Calls Tryz.prog 70 #[v] w fun e w' => ∃ v',e = .returned v' ∧ w'.ownsRow w.heap.size 3 1 v' (ipts bs).length ((ipts bs).map (Value.int .i64)) ∧ Below w.heap.size w w':=by
 obtain ⟨i0,hi,hz0,hz1,hz2⟩:=info_parts infoInt
 obtain ⟨p,cap,rfl,_⟩:=hB.len
 go_enter Tryz.func70,Tryz.ntmps70
 go_wp2
 go_loopw [3,4] (fun o i wr => ∃ (k:Nat) (pre:List Int),i = .int .i64 k ∧ k ≤ bs.length ∧ pre.length ≤ k ∧ ipts bs = pre ++ ipts (bs.drop k) ∧ wr.ownsRow w.heap.size 3 1 o pre.length (pre.map (Value.int .i64)) ∧ Below w.heap.size w wr)
  (fun _ i _ => bs.length - (intOf i).toNat)
 case atStart => exact ⟨0,[],rfl,Nat.zero_le _,Nat.le_refl _,rfl,World.ownsRow_nil _ _ _ _,Below.refl _ _⟩
 case round =>
  obtain ⟨k,pre,rfl,hk,hpk,hx,hrow,hb⟩:=hrel
  by_cases hlt:k < bs.length
  ·obtain ⟨bk,off,hp,hcap,hmx,hbk,hcells⟩:∃ bk off,p = some ⟨bk,off,none⟩ ∧ bs.length ≤ cap ∧ cap ≤ maxLen ∧ bk < w.heap.size ∧ ∀ j u,bs[j]? = some u → wr.cell? ⟨bk,off + j,none⟩ = some (.int .u8 u.toNat):=by
    rcases hB.below hb with ⟨rfl,_⟩ | ⟨bk,off,c,e,e1,e2,e3,h⟩
    ·simp at hlt
    ·cases e;exact ⟨bk,off,rfl,e1,e2,e3,h⟩
   subst hp
   have hne:bs.drop k ≠ []:=by rw [Ne,List.drop_eq_nil_iff];omega
   have hdb:=dec_bounds hne
   have hxc:=ipts_cons hne
   have hdl:(bs.drop k).length = bs.length - k:=by simp
   have hcall:=point_any (bs.drop k) bk (off + k) (cap - k) wr hne (by unfold maxLen;omega) (fun j u hj => by
     rw [Nat.add_assoc];exact hcells (k + j) u (by rw [← hj,List.getElem?_drop]))
   rw [hdl] at hcall hdb
   have hxn:ipts bs = (pre ++ [((dec (bs.drop k)).1:Int)]) ++ ipts (bs.drop (k + (dec (bs.drop k)).2)):=by
    rw [hx,hxc,List.drop_drop];simp
   clear hxc hdl hcells hne
   obtain ⟨hd1,hd2,hd3⟩:=hdb
   generalize (dec (bs.drop k)).1 = r at *
   generalize (dec (bs.drop k)).2 = s at *
   have HN:Hid (_ = _):=hxn
   clear hx hxn hB
   unfold maxLen at hmx
   have hki:(k:Int) < (bs.length:Int):=by omega
   have hks:(k:Int) + (s:Int) ≤ (bs.length:Int):=by omega
   go_wp2_with fail
   refine hcall.mono ?_
   clear hcall
   rintro e w2 ⟨rfl,rfl⟩
   go_wp2_with (at_builtin;refine wpList_append_own _ rfl _ _ 82 rfl w.heap.size 3 i0 (.int .i64 0) 1 8 Tryz.underlying82 hi hz0 hz1 hz2 rfl (by decide) _ _ _ rfl (hrow.alloc _) ⟨w2.heap.size,0,none⟩ 1 1 [.int .i64 r] rfl rfl (cell_one_new _ _ _) (fun x hx => by simp at hx;subst hx;rfl) (by unfold maxLen;omega) (by omega) (by have:=hb.size;simp;omega) ?_;intro v' w3 hown' hgrow3 hnil3)
   refine ⟨⟨k + s,pre ++ [(r:Int)],by go_num,by omega,by simp;omega,HN,?_,below_appended hb hrow hgrow3⟩,by simp [intOf];omega⟩
   simpa using hown'
  ·have hki:¬ (k:Int) < (bs.length:Int):=by omega
   have HX:Hid (_ = _):=hx
   clear hx
   go_wp2
   go_ret
   have hd:bs.drop k = []:=List.drop_eq_nil_iff.2 (by omega)
   have e:ipts bs = pre:=by rw [show ipts bs = _ from HX,hd,ipts_nil,List.append_nil]
   rw [e]
   exact ⟨_,rfl,hrow,hb⟩
/-! ### Prepare, looking ahead -/
def rp:List Int → List Int
 | [] => []
 | p :: t => if p = 13 ∧ t.head? = some 10 then rp t else repl p :: rp t
theorem prepFrom_true:∀ l:List Int,l.head? ≠ some 10 → prepFrom true l = prepFrom false l
 | [],_ => rfl
 | p :: t,h => by
  have:p ≠ 10:=fun e => h (by simp [e])
  simp [prepFrom,this]
theorem prep_rp:∀ (n:Nat) (l:List Int),l.length ≤ n → prepFrom false l = rp l
 | 0,l,h => by
  obtain rfl:l = []:=List.length_eq_zero_iff.1 (by omega)
  rfl
 | n + 1,[],_ => rfl
 | n + 1,p :: t,h => by
  have ih:=prep_rp n t (by simpa using h)
  by_cases h1:p = 13
  ·subst h1
   by_cases h2:t.head? = some 10
   ·cases t with
    | nil => simp at h2
    | cons q u =>
     obtain rfl:q = 10:=by simpa using h2
     have hu:=prep_rp n u (by simp at h;omega)
     simp [prepFrom,rp,repl,hu]
   ·have e:prepFrom false (13 :: t) = repl 13 :: prepFrom true t:=by simp [prepFrom]
    rw [e,prepFrom_true t h2,ih]
    simp [rp,h2]
  ·have e:prepFrom false (p :: t) = repl p :: prepFrom false t:=by simp [prepFrom,show (p == 13) = false from by simpa using h1]
   rw [e,ih]
   simp [rp,h1]
theorem prep_eq_rp (l:List Int):prep l = rp l:=prep_rp _ l (Nat.le_refl _)
set_option maxHeartbeats 2000000 in
theorem refPrepare_any (v:Value) (bs:List UInt8) (w:World) (hB:BytesAt w.heap.size w v bs) (hl:bs.length ≤ 1000000) :
  Calls Tryz.prog 39 #[v] w fun e w' => ∃ v',e = .returned v' ∧ w'.ownsRow w.heap.size 3 1 v' (prep (ipts bs)).length ((prep (ipts bs)).map (Value.int .i64)) ∧ Below w.heap.size w w':=by
 obtain ⟨i0,hi,hz0,hz1,hz2⟩:=info_parts infoInt
 rw [prep_eq_rp]
 have hcall:=refPoints_any v bs w hB hl
 have hll:=ipts_length_le bs
 generalize ipts bs = xs at *
 go_enter Tryz.func39,Tryz.ntmps39
 go_wp2_with fail
 refine hcall.mono ?_
 clear hcall
 rintro e w1 ⟨v1,rfl,hr1,hb1⟩
 have hI:=IntsAt.of_owns hr1 rfl
 obtain ⟨p,cap,rfl⟩:=hI.len
 clear hr1
 go_wp2
 go_loopw [4,5] (fun o i wr => ∃ (k:Nat) (pre:List Int),i = .int .i64 k ∧ k ≤ xs.length ∧ pre.length ≤ k ∧ rp xs = pre ++ rp (xs.drop k) ∧ wr.ownsRow w1.heap.size 3 1 o pre.length (pre.map (Value.int .i64)) ∧ Below w1.heap.size w1 wr)
  (fun _ i _ => xs.length - (intOf i).toNat)
 case atStart => exact ⟨0,[],rfl,Nat.zero_le _,Nat.le_refl _,rfl,World.ownsRow_nil _ _ _ _,Below.refl _ _⟩
 case round =>
  obtain ⟨k,pre,rfl,hk,hpk,hx,hrow,hb⟩:=hrel
  by_cases hlt:k < xs.length
  ·obtain ⟨bk,off,hp,hbk,hcells⟩:∃ bk off,p = some ⟨bk,off,none⟩ ∧ bk < w1.heap.size ∧ ∀ j u,xs[j]? = some u → wr.cell? ⟨bk,off + j,none⟩ = some (.int .i64 u):=by
    rcases hI.below hb with ⟨rfl,_⟩ | ⟨bk,off,c,e,e1,e2,e3,h⟩
    ·simp at hlt
    ·cases e;exact ⟨bk,off,rfl,e3,h⟩
   subst hp
   have hdk:xs.drop k = xs[k] :: xs.drop (k + 1):=List.drop_eq_getElem_cons hlt
   have c0:=hcells k _ (List.getElem?_eq_getElem hlt)
   have hki:(k:Int) < (xs.length:Int):=by omega
   rw [hdk] at hx
   have hn1:(xs.drop (k + 1)).head? = xs[k + 1]?:=by rw [List.head?_drop]
   have hcn:k + 1 < xs.length → wr.cell? ⟨bk,off + (k + 1),none⟩ = some (.int .i64 (xs[k + 1]?.getD 0)):=fun h => by
    have:=hcells (k + 1) _ (List.getElem?_eq_getElem h)
    rw [List.getElem?_eq_getElem h]
    exact this
   rw [rp,hn1] at hx
   clear hcells hn1 hdk
   generalize xs[k] = u at c0 hx
   by_cases hA:u = 13 ∧ xs[k + 1]? = some 10
   ·rw [if_pos hA] at hx
    obtain ⟨rfl,hA2⟩:=hA
    have hk1:=(List.getElem?_eq_some_iff.1 hA2).1
    have c1:=hcn hk1
    rw [hA2] at c1
    simp only [Option.getD_some] at c1
    have HN:Hid (_ = _):=hx
    have hk1':(k:Int) + 1 < (xs.length:Int):=by omega
    clear hx hA2 hcn hI
    go_wp2
    exact ⟨⟨k + 1,pre,by go_num,by omega,by omega,HN,hrow,hb⟩,by simp [intOf];omega⟩
   ·rw [if_neg hA] at hx
    replace hx:rp xs = (pre ++ [repl u]) ++ rp (xs.drop (k + 1)):=by rw [hx];simp
    by_cases h13:u = 13
    ·subst h13
     have HN:Hid (_ = _):=(show rp xs = (pre ++ [10]) ++ rp (xs.drop (k + 1)) from hx)
     by_cases hk1:k + 1 < xs.length
     ·have c1:=hcn hk1
      have hne:((xs[k + 1]?.getD 0) == 10) = false:=by
       rw [beq_eq_false_iff_ne]
       intro e
       refine hA ⟨rfl,?_⟩
       rw [List.getElem?_eq_getElem hk1] at e ⊢
       simpa using e
      generalize xs[k + 1]?.getD 0 = u1 at c1 hne
      have hk1':(k:Int) + 1 < (xs.length:Int):=by omega
      clear hx hcn hA hI
      go_wp2_with (at_builtin;refine wpList_append_own _ rfl _ _ 82 rfl w1.heap.size 3 i0 (.int .i64 0) 1 8 Tryz.underlying82 hi hz0 hz1 hz2 rfl (by decide) _ _ _ rfl (hrow.alloc _) ⟨wr.heap.size,0,none⟩ 1 1 [.int .i64 10] rfl rfl (cell_one_new _ _ _) (fun x hx => by simp at hx;subst hx;rfl) (by unfold maxLen;omega) (by omega) (by have:=hb.size;simp;omega) ?_;intro v' w3 hown' hgrow3 hnil3)
      refine ⟨⟨k + 1,pre ++ [10],by go_num,by omega,by simp;omega,HN,?_,below_appended hb hrow hgrow3⟩,by simp [intOf];omega⟩
      simpa using hown'
     ·have hk1':¬ (k:Int) + 1 < (xs.length:Int):=by omega
      clear hx hcn hA hI
      go_wp2_with (at_builtin;refine wpList_append_own _ rfl _ _ 82 rfl w1.heap.size 3 i0 (.int .i64 0) 1 8 Tryz.underlying82 hi hz0 hz1 hz2 rfl (by decide) _ _ _ rfl (hrow.alloc _) ⟨wr.heap.size,0,none⟩ 1 1 [.int .i64 10] rfl rfl (cell_one_new _ _ _) (fun x hx => by simp at hx;subst hx;rfl) (by unfold maxLen;omega) (by omega) (by have:=hb.size;simp;omega) ?_;intro v' w3 hown' hgrow3 hnil3)
      refine ⟨⟨k + 1,pre ++ [10],by go_num,by omega,by simp;omega,HN,?_,below_appended hb hrow hgrow3⟩,by simp [intOf];omega⟩
      simpa using hown'
    ·have e13:(u == 13) = false:=by simpa using h13
     by_cases h12:u = 12
     ·subst h12
      have HN:Hid (_ = _):=(show rp xs = (pre ++ [10]) ++ rp (xs.drop (k + 1)) from hx)
      clear hx hcn hA hI h13 e13
      go_wp2_with (at_builtin;refine wpList_append_own _ rfl _ _ 82 rfl w1.heap.size 3 i0 (.int .i64 0) 1 8 Tryz.underlying82 hi hz0 hz1 hz2 rfl (by decide) _ _ _ rfl (hrow.alloc _) ⟨wr.heap.size,0,none⟩ 1 1 [.int .i64 10] rfl rfl (cell_one_new _ _ _) (fun x hx => by simp at hx;subst hx;rfl) (by unfold maxLen;omega) (by omega) (by have:=hb.size;simp;omega) ?_;intro v' w3 hown' hgrow3 hnil3)
      refine ⟨⟨k + 1,pre ++ [10],by go_num,by omega,by simp;omega,HN,?_,below_appended hb hrow hgrow3⟩,by simp [intOf];omega⟩
      simpa using hown'
     ·have e12:(u == 12) = false:=by simpa using h12
      by_cases h0:u = 0
      ·subst h0
       have HN:Hid (_ = _):=(show rp xs = (pre ++ [65533]) ++ rp (xs.drop (k + 1)) from hx)
       clear hx hcn hA hI h13 e13 h12 e12
       go_wp2_with (at_builtin;refine wpList_append_own _ rfl _ _ 82 rfl w1.heap.size 3 i0 (.int .i64 0) 1 8 Tryz.underlying82 hi hz0 hz1 hz2 rfl (by decide) _ _ _ rfl (hrow.alloc _) ⟨wr.heap.size,0,none⟩ 1 1 [.int .i64 65533] rfl rfl (cell_one_new _ _ _) (fun x hx => by simp at hx;subst hx;rfl) (by unfold maxLen;omega) (by omega) (by have:=hb.size;simp;omega) ?_;intro v' w3 hown' hgrow3 hnil3)
       refine ⟨⟨k + 1,pre ++ [65533],by go_num,by omega,by simp;omega,HN,?_,below_appended hb hrow hgrow3⟩,by simp [intOf];omega⟩
       simpa using hown'
      ·have e0:(u == 0) = false:=by simpa using h0
       rw [show repl u = u from by simp [repl,h13,h12,h0]] at hx
       have HN:Hid (_ = _):=hx
       clear hx hcn hA hI h13 h12 h0
       go_wp2_with (at_builtin;refine wpList_append_own _ rfl _ _ 82 rfl w1.heap.size 3 i0 (.int .i64 0) 1 8 Tryz.underlying82 hi hz0 hz1 hz2 rfl (by decide) _ _ _ rfl (hrow.alloc _) ⟨wr.heap.size,0,none⟩ 1 1 [.int .i64 u] rfl rfl (cell_one_new _ _ _) (fun x hx => by simp at hx;subst hx;rfl) (by unfold maxLen;omega) (by omega) (by have:=hb.size;simp;omega) ?_;intro v' w3 hown' hgrow3 hnil3)
       refine ⟨⟨k + 1,pre ++ [u],by go_num,by omega,by simp;omega,HN,?_,below_appended hb hrow hgrow3⟩,by simp [intOf];omega⟩
       simpa using hown'
  ·have hki:¬ (k:Int) < (xs.length:Int):=by omega
   have HX:Hid (_ = _):=hx
   clear hx
   go_wp2
   go_ret
   have hd:xs.drop k = []:=List.drop_eq_nil_iff.2 (by omega)
   have e:rp xs = pre:=by rw [show rp xs = _ from HX,hd,rp,List.append_nil]
   rw [e]
   exact ⟨_,rfl,owns_base hrow hb1.size,hb1.trans (hb.mono hb1.size)⟩
end Go.Proofs.YtnemagmakgiheaaGreat
/- Plain facts: what was encoded is decoded as it was; bytes of which the first part ends with one below 128 are read in parts as they are whole; what is prepared has no other line ends and comes back. -/
namespace Go.Proofs.YtnemagmakgiheaaGreat
open Go Go.RowKit
open Go.Lib (decodeN)
/-! ### In parts -/
/-! ### What is prepared -/
theorem decodeN_right (n b0 b1 b2 b3:Nat):(decodeN n b0 b1 b2 b3).1 ≤ 1114111 ∧ ((decodeN n b0 b1 b2 b3).1 < 55296 ∨ 57343 < (decodeN n b0 b1 b2 b3).1):=by
 unfold decodeN
 repeat' split
 all_goals (simp only;omega)
theorem dec_right {l:List UInt8} (h:l ≠ []):rightB (dec l).1 = true:=by
 rw [dec_eq h]
 have:=decodeN_right l.length (l[0]?.getD 0).toNat (l[1]?.getD 0).toNat (l[2]?.getD 0).toNat (l[3]?.getD 0).toNat
 exact rightB_true (by omega)
theorem ipts_right_aux:∀ (f:Nat) (l:List UInt8),l.length ≤ f → ∀ p ∈ ipts l,rightB p = true
 | 0,l,h => by
  obtain rfl:l = []:=List.length_eq_zero_iff.1 (by omega)
  simp [ipts]
 | f + 1,l,h => by
  by_cases e:l = []
  ·simp [e,ipts]
  ·have hb:=dec_bounds e
   rw [ipts_cons e]
   intro p hp
   rcases List.mem_cons.1 hp with rfl | hp
   ·exact dec_right e
   ·exact ipts_right_aux f (l.drop (dec l).2) (by simp;omega) p hp
theorem ipts_right (l:List UInt8):∀ p ∈ ipts l,rightB p = true:=ipts_right_aux _ l (Nat.le_refl _)
def Clean (p:Int):Prop:=p ≠ 13 ∧ p ≠ 12 ∧ 0 < p ∧ rightB p = true
theorem repl_clean {p:Int} (h:rightB p = true):Clean (repl p):=by
 have hr:=rightB_iff.1 h
 unfold repl
 split
 ·exact ⟨by omega,by omega,by omega,by decide⟩
 ·split
  ·exact ⟨by omega,by omega,by omega,by decide⟩
  ·exact ⟨by omega,by omega,by omega,h⟩
theorem prepFrom_clean:∀ (l:List Int) (c:Bool),(∀ p ∈ l,rightB p = true) → ∀ p ∈ prepFrom c l,Clean p
 | [],_,_ => by simp [prepFrom]
 | q :: t,c,h => by
  have ih:=prepFrom_clean t (q == 13) (fun p hp => h p (List.mem_cons_of_mem _ hp))
  intro p hp
  simp only [prepFrom] at hp
  split at hp
  ·exact ih p hp
  ·rcases List.mem_cons.1 hp with rfl | hp
   ·exact repl_clean (h q (List.mem_cons_self ..))
   ·exact ih p hp
theorem prepared_clean (bs:List UInt8):∀ p ∈ prep (ipts bs),Clean p:=prepFrom_clean _ _ (ipts_right bs)
theorem map_fixC_same (l:List Int) (h:∀ p ∈ l,rightB p = true):l.map fixC = l:=by
 conv => rhs;rw [← List.map_id l]
 exact List.map_congr_left (fun p hp => fixC_yes (h p hp))
end Go.Proofs.YtnemagmakgiheaaGreat
