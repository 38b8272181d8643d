/- The document's own point: the code point at the head of a slice of bytes, and its width: it is what the library's decoder tells. -/
import Derived.Test.YtcmmdojlhfmddaaGreatRight
import Derived.Laws.OwnMore
set_option maxRecDepth 100000
namespace Go.Proofs.YtcmmdojlhfmddaaGreat
open Go Go.RowKit Go.Shelf
open Go.Lib (decodeN)
set_option maxHeartbeats 2000000 in
theorem point_2 (n b0 b1 b2 b3 bk off cap:Nat) (w:World) (hn:1 ≤ n) (hm:n ≤ maxLen) (l1:b1 < 256) (l2:b2 < 256) (l3:b3 < 256) (x1:194 ≤ b0) (x2:b0 < 224)
  (h0:w.cell? ⟨bk,off,none⟩ = some (.int .u8 b0)) (h1:1 < n → w.cell? ⟨bk,off + 1,none⟩ = some (.int .u8 b1)) (_h2:2 < n → w.cell? ⟨bk,off + 2,none⟩ = some (.int .u8 b2)) (_h3:3 < n → w.cell? ⟨bk,off + 3,none⟩ = some (.int .u8 b3)) :
  Calls Tryz.prog 57 #[.slice (some ⟨bk,off,none⟩) n cap] w fun e w' => e = .returned (.tuple #[.int .i64 (decodeN n b0 b1 b2 b3).1,.int .i64 (decodeN n b0 b1 b2 b3).2]) ∧ w' = w:=by
 unfold maxLen at hm
 have g0:¬ (b0:Int) < 128:=by omega
 have gn:(0:Int) < n:=by omega
 have ga194: (194:Int) ≤ b0:=by omega
 have gb224: (b0:Int) < 224:=by omega
 have ga224:¬ (224:Int) ≤ b0:=by omega
 have gb240: (b0:Int) < 240:=by omega
 have ga240:¬ (240:Int) ≤ b0:=by omega
 have gb245: (b0:Int) < 245:=by omega
 have m31:=i64_and31
 have m63:=i64_and63
 by_cases hs:(n:Int) < 2
 ·have HD:Hid (_ = _):=dn2_short n b0 b1 b2 b3 x1 x2 (by omega)
  go_enter Tryz.func57,Tryz.ntmps57
  go_wp2
  go_ret2
  exact ⟨ret_dec HD rfl rfl,rfl⟩
 ·have c1:=h1 (by omega)
  have ge:(2:Int) ≤ n:=by omega
  clear h1 _h2 _h3
  go_enter Tryz.func57,Tryz.ntmps57
  go_wp2
  go_loop [7,8] (fun c i => (i = .int .i64 1 ∧ c = .int .i64 ((b0:Int) % 32)) ∨ (i = .int .i64 2 ∧ c = .int .i64 (((b0:Int) % 32) * 64 + (b1:Int) % 64) ∧ (128 ≤ b1 ∧ b1 ≤ 191))) (fun _ i => 2 - (intOf i).toNat)
  case atStart => exact .inl ⟨rfl,rfl⟩
  case round =>
   rcases hrel with ⟨rfl,rfl⟩ | ⟨rfl,rfl,k1⟩
   ·by_cases hc:128 ≤ b1 ∧ b1 ≤ 191
    ·obtain ⟨q1,q2⟩:=hc
     have i1:¬ (b1:Int) < 128:=by omega
     have i2:¬ (191:Int) < b1:=by omega
     go_wp2
     exact ⟨.inr ⟨rfl,rfl,⟨q1,q2⟩⟩,by simp [intOf]⟩
    ·have HD:Hid (_ = _):=dn2_bad1 n b0 b1 b2 b3 x1 x2 l1 l2 l3 hc
     by_cases i1:(b1:Int) < 128
     ·go_wp2
      go_ret2
      exact ⟨ret_dec HD rfl rfl,rfl⟩
     ·have i2:(191:Int) < b1:=by omega
      go_wp2
      go_ret2
      exact ⟨ret_dec HD rfl rfl,rfl⟩
   ·have hD:=dn2_end n b0 b1 b2 b3 x1 x2 l1 l2 l3 (by omega) k1
    have hcast:(((b0 % 32) * 64 + b1 % 64:Nat):Int) = ((b0:Int) % 32) * 64 + (b1:Int) % 64:=by push_cast;rfl
    by_cases q:(b0 % 32) * 64 + b1 % 64 < 128
    ·have i1:((b0:Int) % 32) * 64 + (b1:Int) % 64 < (128:Int):=by omega
     rw [if_pos (.inl q)] at hD
     have HD:Hid (_ = _):=hD
     clear hcast q hD
     go_wp2
     go_ret2
     exact ⟨ret_dec HD rfl rfl,rfl⟩
    ·have i1:¬ ((b0:Int) % 32) * 64 + (b1:Int) % 64 < (128:Int):=by omega
     rw [hcast] at hD
     cases hb:rightB (((b0:Int) % 32) * 64 + (b1:Int) % 64)
     ·rw [if_pos (.inr hb)] at hD
      have HD:Hid (_ = _):=hD
      clear hcast q hD
      go_wp2_with (go_at_call 51;refine (right_any _ _).mono ?_;rintro e w2 ⟨rfl,rfl⟩)
      go_ret2
      exact ⟨ret_dec HD rfl rfl,rfl⟩
     ·rw [if_neg (by simp [q,hb])] at hD
      have HD:Hid (_ = _):=hD
      clear hcast q hD
      go_wp2_with (go_at_call 51;refine (right_any _ _).mono ?_;rintro e w2 ⟨rfl,rfl⟩)
      go_ret2
      exact ⟨ret_dec HD (by push_cast;rfl) rfl,rfl⟩
set_option maxHeartbeats 2000000 in
theorem point_3 (n b0 b1 b2 b3 bk off cap:Nat) (w:World) (hn:1 ≤ n) (hm:n ≤ maxLen) (l1:b1 < 256) (l2:b2 < 256) (l3:b3 < 256) (x1:224 ≤ b0) (x2:b0 < 240)
  (h0:w.cell? ⟨bk,off,none⟩ = some (.int .u8 b0)) (h1:1 < n → w.cell? ⟨bk,off + 1,none⟩ = some (.int .u8 b1)) (h2:2 < n → w.cell? ⟨bk,off + 2,none⟩ = some (.int .u8 b2)) (_h3:3 < n → w.cell? ⟨bk,off + 3,none⟩ = some (.int .u8 b3)) :
  Calls Tryz.prog 57 #[.slice (some ⟨bk,off,none⟩) n cap] w fun e w' => e = .returned (.tuple #[.int .i64 (decodeN n b0 b1 b2 b3).1,.int .i64 (decodeN n b0 b1 b2 b3).2]) ∧ w' = w:=by
 unfold maxLen at hm
 have g0:¬ (b0:Int) < 128:=by omega
 have gn:(0:Int) < n:=by omega
 have ga194: (194:Int) ≤ b0:=by omega
 have gb224:¬ (b0:Int) < 224:=by omega
 have ga224: (224:Int) ≤ b0:=by omega
 have gb240: (b0:Int) < 240:=by omega
 have ga240:¬ (240:Int) ≤ b0:=by omega
 have gb245: (b0:Int) < 245:=by omega
 have m15:=i64_and15
 have m63:=i64_and63
 by_cases hs:(n:Int) < 3
 ·have HD:Hid (_ = _):=dn3_short n b0 b1 b2 b3 x1 x2 (by omega)
  go_enter Tryz.func57,Tryz.ntmps57
  go_wp2
  go_ret2
  exact ⟨ret_dec HD rfl rfl,rfl⟩
 ·have c1:=h1 (by omega)
  have c2:=h2 (by omega)
  have ge:(3:Int) ≤ n:=by omega
  clear h1 h2 _h3
  go_enter Tryz.func57,Tryz.ntmps57
  go_wp2
  go_loop [7,8] (fun c i => (i = .int .i64 1 ∧ c = .int .i64 ((b0:Int) % 16)) ∨ (i = .int .i64 2 ∧ c = .int .i64 (((b0:Int) % 16) * 64 + (b1:Int) % 64) ∧ (128 ≤ b1 ∧ b1 ≤ 191)) ∨ (i = .int .i64 3 ∧ c = .int .i64 ((((b0:Int) % 16) * 64 + (b1:Int) % 64) * 64 + (b2:Int) % 64) ∧ (128 ≤ b1 ∧ b1 ≤ 191) ∧ (128 ≤ b2 ∧ b2 ≤ 191))) (fun _ i => 3 - (intOf i).toNat)
  case atStart => exact .inl ⟨rfl,rfl⟩
  case round =>
   rcases hrel with ⟨rfl,rfl⟩ | ⟨rfl,rfl,k1⟩ | ⟨rfl,rfl,k1,k2⟩
   ·by_cases hc:128 ≤ b1 ∧ b1 ≤ 191
    ·obtain ⟨q1,q2⟩:=hc
     have i1:¬ (b1:Int) < 128:=by omega
     have i2:¬ (191:Int) < b1:=by omega
     go_wp2
     exact ⟨.inr (.inl ⟨rfl,rfl,⟨q1,q2⟩⟩),by simp [intOf]⟩
    ·have HD:Hid (_ = _):=dn3_bad1 n b0 b1 b2 b3 x1 x2 l1 l2 l3 hc
     by_cases i1:(b1:Int) < 128
     ·go_wp2
      go_ret2
      exact ⟨ret_dec HD rfl rfl,rfl⟩
     ·have i2:(191:Int) < b1:=by omega
      go_wp2
      go_ret2
      exact ⟨ret_dec HD rfl rfl,rfl⟩
   ·by_cases hc:128 ≤ b2 ∧ b2 ≤ 191
    ·obtain ⟨q1,q2⟩:=hc
     have i1:¬ (b2:Int) < 128:=by omega
     have i2:¬ (191:Int) < b2:=by omega
     go_wp2
     exact ⟨.inr (.inr ⟨rfl,rfl,k1,⟨q1,q2⟩⟩),by simp [intOf]⟩
    ·have HD:Hid (_ = _):=dn3_bad2 n b0 b1 b2 b3 x1 x2 l1 l2 l3 hc
     by_cases i1:(b2:Int) < 128
     ·go_wp2
      go_ret2
      exact ⟨ret_dec HD rfl rfl,rfl⟩
     ·have i2:(191:Int) < b2:=by omega
      go_wp2
      go_ret2
      exact ⟨ret_dec HD rfl rfl,rfl⟩
   ·have hD:=dn3_end n b0 b1 b2 b3 x1 x2 l1 l2 l3 (by omega) k1 k2
    have hcast:((((b0 % 16) * 64 + b1 % 64) * 64 + b2 % 64:Nat):Int) = (((b0:Int) % 16) * 64 + (b1:Int) % 64) * 64 + (b2:Int) % 64:=by push_cast;rfl
    by_cases q:((b0 % 16) * 64 + b1 % 64) * 64 + b2 % 64 < 2048
    ·have i1:(((b0:Int) % 16) * 64 + (b1:Int) % 64) * 64 + (b2:Int) % 64 < (2048:Int):=by omega
     rw [if_pos (.inl q)] at hD
     have HD:Hid (_ = _):=hD
     clear hcast q hD
     go_wp2
     go_ret2
     exact ⟨ret_dec HD rfl rfl,rfl⟩
    ·have i1:¬ (((b0:Int) % 16) * 64 + (b1:Int) % 64) * 64 + (b2:Int) % 64 < (2048:Int):=by omega
     rw [hcast] at hD
     cases hb:rightB ((((b0:Int) % 16) * 64 + (b1:Int) % 64) * 64 + (b2:Int) % 64)
     ·rw [if_pos (.inr hb)] at hD
      have HD:Hid (_ = _):=hD
      clear hcast q hD
      go_wp2_with (go_at_call 51;refine (right_any _ _).mono ?_;rintro e w2 ⟨rfl,rfl⟩)
      go_ret2
      exact ⟨ret_dec HD rfl rfl,rfl⟩
     ·rw [if_neg (by simp [q,hb])] at hD
      have HD:Hid (_ = _):=hD
      clear hcast q hD
      go_wp2_with (go_at_call 51;refine (right_any _ _).mono ?_;rintro e w2 ⟨rfl,rfl⟩)
      go_ret2
      exact ⟨ret_dec HD (by push_cast;rfl) rfl,rfl⟩
set_option maxHeartbeats 2000000 in
theorem point_4 (n b0 b1 b2 b3 bk off cap:Nat) (w:World) (hn:1 ≤ n) (hm:n ≤ maxLen) (l1:b1 < 256) (l2:b2 < 256) (l3:b3 < 256) (x1:240 ≤ b0) (x2:b0 < 245)
  (h0:w.cell? ⟨bk,off,none⟩ = some (.int .u8 b0)) (h1:1 < n → w.cell? ⟨bk,off + 1,none⟩ = some (.int .u8 b1)) (h2:2 < n → w.cell? ⟨bk,off + 2,none⟩ = some (.int .u8 b2)) (h3:3 < n → w.cell? ⟨bk,off + 3,none⟩ = some (.int .u8 b3)) :
  Calls Tryz.prog 57 #[.slice (some ⟨bk,off,none⟩) n cap] w fun e w' => e = .returned (.tuple #[.int .i64 (decodeN n b0 b1 b2 b3).1,.int .i64 (decodeN n b0 b1 b2 b3).2]) ∧ w' = w:=by
 unfold maxLen at hm
 have g0:¬ (b0:Int) < 128:=by omega
 have gn:(0:Int) < n:=by omega
 have ga194: (194:Int) ≤ b0:=by omega
 have gb224:¬ (b0:Int) < 224:=by omega
 have ga224: (224:Int) ≤ b0:=by omega
 have gb240:¬ (b0:Int) < 240:=by omega
 have ga240: (240:Int) ≤ b0:=by omega
 have gb245: (b0:Int) < 245:=by omega
 have m7:=i64_and7
 have m63:=i64_and63
 by_cases hs:(n:Int) < 4
 ·have HD:Hid (_ = _):=dn4_short n b0 b1 b2 b3 x1 x2 (by omega)
  go_enter Tryz.func57,Tryz.ntmps57
  go_wp2
  go_ret2
  exact ⟨ret_dec HD rfl rfl,rfl⟩
 ·have c1:=h1 (by omega)
  have c2:=h2 (by omega)
  have c3:=h3 (by omega)
  have ge:(4:Int) ≤ n:=by omega
  clear h1 h2 h3
  go_enter Tryz.func57,Tryz.ntmps57
  go_wp2
  go_loop [7,8] (fun c i => (i = .int .i64 1 ∧ c = .int .i64 ((b0:Int) % 8)) ∨ (i = .int .i64 2 ∧ c = .int .i64 (((b0:Int) % 8) * 64 + (b1:Int) % 64) ∧ (128 ≤ b1 ∧ b1 ≤ 191)) ∨ (i = .int .i64 3 ∧ c = .int .i64 ((((b0:Int) % 8) * 64 + (b1:Int) % 64) * 64 + (b2:Int) % 64) ∧ (128 ≤ b1 ∧ b1 ≤ 191) ∧ (128 ≤ b2 ∧ b2 ≤ 191)) ∨ (i = .int .i64 4 ∧ c = .int .i64 (((((b0:Int) % 8) * 64 + (b1:Int) % 64) * 64 + (b2:Int) % 64) * 64 + (b3:Int) % 64) ∧ (128 ≤ b1 ∧ b1 ≤ 191) ∧ (128 ≤ b2 ∧ b2 ≤ 191) ∧ (128 ≤ b3 ∧ b3 ≤ 191))) (fun _ i => 4 - (intOf i).toNat)
  case atStart => exact .inl ⟨rfl,rfl⟩
  case round =>
   rcases hrel with ⟨rfl,rfl⟩ | ⟨rfl,rfl,k1⟩ | ⟨rfl,rfl,k1,k2⟩ | ⟨rfl,rfl,k1,k2,k3⟩
   ·by_cases hc:128 ≤ b1 ∧ b1 ≤ 191
    ·obtain ⟨q1,q2⟩:=hc
     have i1:¬ (b1:Int) < 128:=by omega
     have i2:¬ (191:Int) < b1:=by omega
     go_wp2
     exact ⟨.inr (.inl ⟨rfl,rfl,⟨q1,q2⟩⟩),by simp [intOf]⟩
    ·have HD:Hid (_ = _):=dn4_bad1 n b0 b1 b2 b3 x1 x2 l1 l2 l3 hc
     by_cases i1:(b1:Int) < 128
     ·go_wp2
      go_ret2
      exact ⟨ret_dec HD rfl rfl,rfl⟩
     ·have i2:(191:Int) < b1:=by omega
      go_wp2
      go_ret2
      exact ⟨ret_dec HD rfl rfl,rfl⟩
   ·by_cases hc:128 ≤ b2 ∧ b2 ≤ 191
    ·obtain ⟨q1,q2⟩:=hc
     have i1:¬ (b2:Int) < 128:=by omega
     have i2:¬ (191:Int) < b2:=by omega
     go_wp2
     exact ⟨.inr (.inr (.inl ⟨rfl,rfl,k1,⟨q1,q2⟩⟩)),by simp [intOf]⟩
    ·have HD:Hid (_ = _):=dn4_bad2 n b0 b1 b2 b3 x1 x2 l1 l2 l3 hc
     by_cases i1:(b2:Int) < 128
     ·go_wp2
      go_ret2
      exact ⟨ret_dec HD rfl rfl,rfl⟩
     ·have i2:(191:Int) < b2:=by omega
      go_wp2
      go_ret2
      exact ⟨ret_dec HD rfl rfl,rfl⟩
   ·by_cases hc:128 ≤ b3 ∧ b3 ≤ 191
    ·obtain ⟨q1,q2⟩:=hc
     have i1:¬ (b3:Int) < 128:=by omega
     have i2:¬ (191:Int) < b3:=by omega
     go_wp2
     exact ⟨.inr (.inr (.inr ⟨rfl,rfl,k1,k2,⟨q1,q2⟩⟩)),by simp [intOf]⟩
    ·have HD:Hid (_ = _):=dn4_bad3 n b0 b1 b2 b3 x1 x2 l1 l2 l3 hc
     by_cases i1:(b3:Int) < 128
     ·go_wp2
      go_ret2
      exact ⟨ret_dec HD rfl rfl,rfl⟩
     ·have i2:(191:Int) < b3:=by omega
      go_wp2
      go_ret2
      exact ⟨ret_dec HD rfl rfl,rfl⟩
   ·have hD:=dn4_end n b0 b1 b2 b3 x1 x2 l1 l2 l3 (by omega) k1 k2 k3
    have hcast:(((((b0 % 8) * 64 + b1 % 64) * 64 + b2 % 64) * 64 + b3 % 64:Nat):Int) = ((((b0:Int) % 8) * 64 + (b1:Int) % 64) * 64 + (b2:Int) % 64) * 64 + (b3:Int) % 64:=by push_cast;rfl
    by_cases q:(((b0 % 8) * 64 + b1 % 64) * 64 + b2 % 64) * 64 + b3 % 64 < 65536
    ·have i1:((((b0:Int) % 8) * 64 + (b1:Int) % 64) * 64 + (b2:Int) % 64) * 64 + (b3:Int) % 64 < (65536:Int):=by omega
     rw [if_pos (.inl q)] at hD
     have HD:Hid (_ = _):=hD
     clear hcast q hD
     go_wp2
     go_ret2
     exact ⟨ret_dec HD rfl rfl,rfl⟩
    ·have i1:¬ ((((b0:Int) % 8) * 64 + (b1:Int) % 64) * 64 + (b2:Int) % 64) * 64 + (b3:Int) % 64 < (65536:Int):=by omega
     rw [hcast] at hD
     cases hb:rightB (((((b0:Int) % 8) * 64 + (b1:Int) % 64) * 64 + (b2:Int) % 64) * 64 + (b3:Int) % 64)
     ·rw [if_pos (.inr hb)] at hD
      have HD:Hid (_ = _):=hD
      clear hcast q hD
      go_wp2_with (go_at_call 51;refine (right_any _ _).mono ?_;rintro e w2 ⟨rfl,rfl⟩)
      go_ret2
      exact ⟨ret_dec HD rfl rfl,rfl⟩
     ·rw [if_neg (by simp [q,hb])] at hD
      have HD:Hid (_ = _):=hD
      clear hcast q hD
      go_wp2_with (go_at_call 51;refine (right_any _ _).mono ?_;rintro e w2 ⟨rfl,rfl⟩)
      go_ret2
      exact ⟨ret_dec HD (by push_cast;rfl) rfl,rfl⟩
end Go.Proofs.YtcmmdojlhfmddaaGreat

/- The document's own Points and Prepare, at every slice of bytes that is not too long: the same lists. -/
set_option maxRecDepth 100000
namespace Go.Proofs.YtcmmdojlhfmddaaGreat
open Go Go.RowKit Go.Shelf
open Go.Lib (decodeN)
set_option maxHeartbeats 2000000 in
theorem point_small (n b0 b1 b2 b3 bk off cap:Nat) (w:World) (hn:1 ≤ n) (hm:n ≤ maxLen) (h0:w.cell? ⟨bk,off,none⟩ = some (.int .u8 b0)) (l0:b0 < 256) (hx:b0 < 194 ∨ 245 ≤ b0) :
  Calls Tryz.prog 57 #[.slice (some ⟨bk,off,none⟩) n cap] w fun e w' => e = .returned (.tuple #[.int .i64 (decodeN n b0 b1 b2 b3).1,.int .i64 (decodeN n b0 b1 b2 b3).2]) ∧ w' = w:=by
 unfold maxLen at hm
 have gn:(0:Int) < n:=by omega
 by_cases h1:b0 < 128
 ·have HD:Hid (decodeN n b0 b1 b2 b3 = (b0,1)):=by
   unfold decodeN
   rw [if_pos h1]
   rfl
  have g0:(b0:Int) < 128:=by omega
  go_enter Tryz.func57,Tryz.ntmps57
  go_wp2
  go_ret2
  exact ⟨ret_dec HD rfl rfl,rfl⟩
 ·have HD:Hid (decodeN n b0 b1 b2 b3 = (65533,1)):=by
   show decodeN n b0 b1 b2 b3 = (65533,1)
   unfold decodeN
   repeat' split
   all_goals first | rfl | (exfalso;omega)
  have g0:¬ (b0:Int) < 128:=by omega
  rcases hx with hx | hx
  ·have g1:¬ (194:Int) ≤ b0:=by omega
   have g2:¬ (224:Int) ≤ b0:=by omega
   have g3:¬ (240:Int) ≤ b0:=by omega
   go_enter Tryz.func57,Tryz.ntmps57
   go_wp2
   go_ret2
   exact ⟨ret_dec HD rfl rfl,rfl⟩
  ·have g1:(194:Int) ≤ b0:=by omega
   have g2:(224:Int) ≤ b0:=by omega
   have g3:(240:Int) ≤ b0:=by omega
   have g4:¬ (b0:Int) < 224:=by omega
   have g5:¬ (b0:Int) < 240:=by omega
   have g6:¬ (b0:Int) < 245:=by omega
   go_enter Tryz.func57,Tryz.ntmps57
   go_wp2
   go_ret2
   exact ⟨ret_dec HD rfl rfl,rfl⟩
theorem point_any (l:List UInt8) (bk off cap:Nat) (w:World) (hl:l ≠ []) (hm:l.length ≤ maxLen) (hp:∀ j u,l[j]? = some u → w.cell? ⟨bk,off + j,none⟩ = some (.int .u8 u.toNat)) :
  Calls Tryz.prog 57 #[.slice (some ⟨bk,off,none⟩) l.length cap] w fun e w' => e = .returned (.tuple #[.int .i64 (dec l).1,.int .i64 (dec l).2]) ∧ w' = w:=by
 rw [dec_eq hl]
 have hpos:=List.length_pos_iff.2 hl
 have hc:∀ j,j < l.length → w.cell? ⟨bk,off + j,none⟩ = some (.int .u8 (l[j]?.getD 0).toNat):=fun j hj => by
  have:=hp j _ (List.getElem?_eq_getElem hj)
  rw [List.getElem?_eq_getElem hj]
  exact this
 have h0:w.cell? ⟨bk,off,none⟩ = some (.int .u8 (l[0]?.getD 0).toNat):=hc 0 hpos
 have b:=fun j:Nat => (l[j]?.getD 0).toNat_lt
 by_cases h1:(l[0]?.getD 0).toNat < 194 ∨ 245 ≤ (l[0]?.getD 0).toNat
 ·exact point_small _ _ _ _ _ bk off cap w hpos hm h0 (b 0) h1
 ·by_cases h2:(l[0]?.getD 0).toNat < 224
  ·exact point_2 _ _ _ _ _ bk off cap w hpos hm (b 1) (b 2) (b 3) (by omega) h2 h0 (hc 1) (hc 2) (hc 3)
  ·by_cases h3:(l[0]?.getD 0).toNat < 240
   ·exact point_3 _ _ _ _ _ bk off cap w hpos hm (b 1) (b 2) (b 3) (by omega) h3 h0 (hc 1) (hc 2) (hc 3)
   ·exact point_4 _ _ _ _ _ bk off cap w hpos hm (b 1) (b 2) (b 3) (by omega) (by omega) h0 (hc 1) (hc 2) (hc 3)
theorem below_appended {w X Y:World} {e:TypeId} {size:Nat} {v:Value} {k:Nat} {xs:List Value} {tmp:Obj} (hb:Below w.heap.size w X) (hrow:X.ownsRow w.heap.size e size v k xs) (hg:(X.alloc tmp).grownBy Y v.ownBlock):Below w.heap.size w Y:=
 (hb.alloc hb.size tmp).grown hg (by have:=hb.size;simp;omega) (fun j ej => (hrow.lt j ej).1)
set_option maxHeartbeats 2000000 in
theorem refPoints_any (v:Value) (bs:List UInt8) (w:World) (hB:BytesAt w.heap.size w v bs) (hl:bs.length ≤ 1000000) :
  Calls Tryz.prog 32 #[v] w fun e w' => ∃ v',e = .returned v' ∧ w'.ownsRow w.heap.size 3 1 v' (ipts bs).length ((ipts bs).map (Value.int .i64)) ∧ Below w.heap.size w w':=by
 obtain ⟨i0,hi,hz0,hz1,hz2⟩:=info_parts infoInt
 obtain ⟨p,cap,rfl,_⟩:=hB.len
 go_enter Tryz.func32,Tryz.ntmps32
 go_wp2
 go_loopw [3,4] (fun o i wr => ∃ (k:Nat) (pre:List Int),i = .int .i64 k ∧ k ≤ bs.length ∧ pre.length ≤ k ∧ ipts bs = pre ++ ipts (bs.drop k) ∧ wr.ownsRow w.heap.size 3 1 o pre.length (pre.map (Value.int .i64)) ∧ Below w.heap.size w wr)
  (fun _ i _ => bs.length - (intOf i).toNat)
 case atStart => exact ⟨0,[],rfl,Nat.zero_le _,Nat.le_refl _,rfl,World.ownsRow_nil _ _ _ _,Below.refl _ _⟩
 case round =>
  obtain ⟨k,pre,rfl,hk,hpk,hx,hrow,hb⟩:=hrel
  by_cases hlt:k < bs.length
  ·obtain ⟨bk,off,hp,hcap,hmx,hbk,hcells⟩:∃ bk off,p = some ⟨bk,off,none⟩ ∧ bs.length ≤ cap ∧ cap ≤ maxLen ∧ bk < w.heap.size ∧ ∀ j u,bs[j]? = some u → wr.cell? ⟨bk,off + j,none⟩ = some (.int .u8 u.toNat):=by
    rcases hB.below hb with ⟨rfl,_⟩ | ⟨bk,off,c,e,e1,e2,e3,h⟩
    ·simp at hlt
    ·cases e;exact ⟨bk,off,rfl,e1,e2,e3,h⟩
   subst hp
   have hne:bs.drop k ≠ []:=by rw [Ne,List.drop_eq_nil_iff];omega
   have hdb:=dec_bounds hne
   have hxc:=ipts_cons hne
   have hdl:(bs.drop k).length = bs.length - k:=by simp
   have hcall:=point_any (bs.drop k) bk (off + k) (cap - k) wr hne (by unfold maxLen;omega) (fun j u hj => by
     rw [Nat.add_assoc];exact hcells (k + j) u (by rw [← hj,List.getElem?_drop]))
   rw [hdl] at hcall hdb
   have hxn:ipts bs = (pre ++ [((dec (bs.drop k)).1:Int)]) ++ ipts (bs.drop (k + (dec (bs.drop k)).2)):=by
    rw [hx,hxc,List.drop_drop];simp
   clear hxc hdl hcells hne
   obtain ⟨hd1,hd2,hd3⟩:=hdb
   generalize (dec (bs.drop k)).1 = r at *
   generalize (dec (bs.drop k)).2 = s at *
   have HN:Hid (_ = _):=hxn
   clear hx hxn hB
   unfold maxLen at hmx
   have hki:(k:Int) < (bs.length:Int):=by omega
   have hks:(k:Int) + (s:Int) ≤ (bs.length:Int):=by omega
   go_wp2_with fail
   refine hcall.mono ?_
   clear hcall
   rintro e w2 ⟨rfl,rfl⟩
   go_wp2_with (at_builtin;refine wpList_append_own _ rfl _ _ 55 rfl w.heap.size 3 i0 (.int .i64 0) 1 8 Tryz.underlying55 hi hz0 hz1 hz2 rfl (by decide) _ _ _ rfl (hrow.alloc _) ⟨w2.heap.size,0,none⟩ 1 1 [.int .i64 r] rfl rfl (cell_one_new _ _ _) (fun x hx => by simp at hx;subst hx;rfl) (by unfold maxLen;omega) (by omega) (by have:=hb.size;simp;omega) ?_;intro v' w3 hown' hgrow3 hnil3)
   refine ⟨⟨k + s,pre ++ [(r:Int)],by go_num,by omega,by simp;omega,HN,?_,below_appended hb hrow hgrow3⟩,by simp [intOf];omega⟩
   simpa using hown'
  ·have hki:¬ (k:Int) < (bs.length:Int):=by omega
   have HX:Hid (_ = _):=hx
   clear hx
   go_wp2
   go_ret
   have hd:bs.drop k = []:=List.drop_eq_nil_iff.2 (by omega)
   have e:ipts bs = pre:=by rw [show ipts bs = _ from HX,hd,ipts_nil,List.append_nil]
   rw [e]
   exact ⟨_,rfl,hrow,hb⟩
/-! ### Prepare, looking ahead -/
def rp:List Int → List Int
 | [] => []
 | p :: t => if p = 13 ∧ t.head? = some 10 then rp t else repl p :: rp t
theorem prepFrom_true:∀ l:List Int,l.head? ≠ some 10 → prepFrom true l = prepFrom false l
 | [],_ => rfl
 | p :: t,h => by
  have:p ≠ 10:=fun e => h (by simp [e])
  simp [prepFrom,this]
theorem prep_rp:∀ (n:Nat) (l:List Int),l.length ≤ n → prepFrom false l = rp l
 | 0,l,h => by
  obtain rfl:l = []:=List.length_eq_zero_iff.1 (by omega)
  rfl
 | n + 1,[],_ => rfl
 | n + 1,p :: t,h => by
  have ih:=prep_rp n t (by simpa using h)
  by_cases h1:p = 13
  ·subst h1
   by_cases h2:t.head? = some 10
   ·cases t with
    | nil => simp at h2
    | cons q u =>
     obtain rfl:q = 10:=by simpa using h2
     have hu:=prep_rp n u (by simp at h;omega)
     simp [prepFrom,rp,repl,hu]
   ·have e:prepFrom false (13 :: t) = repl 13 :: prepFrom true t:=by simp [prepFrom]
    rw [e,prepFrom_true t h2,ih]
    simp [rp,h2]
  ·have e:prepFrom false (p :: t) = repl p :: prepFrom false t:=by simp [prepFrom,show (p == 13) = false from by simpa using h1]
   rw [e,ih]
   simp [rp,h1]
theorem prep_eq_rp (l:List Int):prep l = rp l:=prep_rp _ l (Nat.le_refl _)
set_option maxHeartbeats 2000000 in
theorem refPrepare_any (v:Value) (bs:List UInt8) (w:World) (hB:BytesAt w.heap.size w v bs) (hl:bs.length ≤ 1000000) :
  Calls Tryz.prog 12 #[v] w fun e w' => ∃ v',e = .returned v' ∧ w'.ownsRow w.heap.size 3 1 v' (prep (ipts bs)).length ((prep (ipts bs)).map (Value.int .i64)) ∧ Below w.heap.size w w':=by
 obtain ⟨i0,hi,hz0,hz1,hz2⟩:=info_parts infoInt
 rw [prep_eq_rp]
 have hcall:=refPoints_any v bs w hB hl
 have hll:=ipts_length_le bs
 generalize ipts bs = xs at *
 go_enter Tryz.func12,Tryz.ntmps12
 go_wp2_with fail
 refine hcall.mono ?_
 clear hcall
 rintro e w1 ⟨v1,rfl,hr1,hb1⟩
 have hI:=IntsAt.of_owns hr1 rfl
 obtain ⟨p,cap,rfl⟩:=hI.len
 clear hr1
 go_wp2
 go_loopw [4,5] (fun o i wr => ∃ (k:Nat) (pre:List Int),i = .int .i64 k ∧ k ≤ xs.length ∧ pre.length ≤ k ∧ rp xs = pre ++ rp (xs.drop k) ∧ wr.ownsRow w1.heap.size 3 1 o pre.length (pre.map (Value.int .i64)) ∧ Below w1.heap.size w1 wr)
  (fun _ i _ => xs.length - (intOf i).toNat)
 case atStart => exact ⟨0,[],rfl,Nat.zero_le _,Nat.le_refl _,rfl,World.ownsRow_nil _ _ _ _,Below.refl _ _⟩
 case round =>
  obtain ⟨k,pre,rfl,hk,hpk,hx,hrow,hb⟩:=hrel
  by_cases hlt:k < xs.length
  ·obtain ⟨bk,off,hp,hbk,hcells⟩:∃ bk off,p = some ⟨bk,off,none⟩ ∧ bk < w1.heap.size ∧ ∀ j u,xs[j]? = some u → wr.cell? ⟨bk,off + j,none⟩ = some (.int .i64 u):=by
    rcases hI.below hb with ⟨rfl,_⟩ | ⟨bk,off,c,e,e1,e2,e3,h⟩
    ·simp at hlt
    ·cases e;exact ⟨bk,off,rfl,e3,h⟩
   subst hp
   have hdk:xs.drop k = xs[k] :: xs.drop (k + 1):=List.drop_eq_getElem_cons hlt
   have c0:=hcells k _ (List.getElem?_eq_getElem hlt)
   have hki:(k:Int) < (xs.length:Int):=by omega
   rw [hdk] at hx
   have hn1:(xs.drop (k + 1)).head? = xs[k + 1]?:=by rw [List.head?_drop]
   have hcn:k + 1 < xs.length → wr.cell? ⟨bk,off + (k + 1),none⟩ = some (.int .i64 (xs[k + 1]?.getD 0)):=fun h => by
    have:=hcells (k + 1) _ (List.getElem?_eq_getElem h)
    rw [List.getElem?_eq_getElem h]
    exact this
   rw [rp,hn1] at hx
   clear hcells hn1 hdk
   generalize xs[k] = u at c0 hx
   by_cases hA:u = 13 ∧ xs[k + 1]? = some 10
   ·rw [if_pos hA] at hx
    obtain ⟨rfl,hA2⟩:=hA
    have hk1:=(List.getElem?_eq_some_iff.1 hA2).1
    have c1:=hcn hk1
    rw [hA2] at c1
    simp only [Option.getD_some] at c1
    have HN:Hid (_ = _):=hx
    have hk1':(k:Int) + 1 < (xs.length:Int):=by omega
    clear hx hA2 hcn hI
    go_wp2
    exact ⟨⟨k + 1,pre,by go_num,by omega,by omega,HN,hrow,hb⟩,by simp [intOf];omega⟩
   ·rw [if_neg hA] at hx
    replace hx:rp xs = (pre ++ [repl u]) ++ rp (xs.drop (k + 1)):=by rw [hx];simp
    by_cases h13:u = 13
    ·subst h13
     have HN:Hid (_ = _):=(show rp xs = (pre ++ [10]) ++ rp (xs.drop (k + 1)) from hx)
     by_cases hk1:k + 1 < xs.length
     ·have c1:=hcn hk1
      have hne:((xs[k + 1]?.getD 0) == 10) = false:=by
       rw [beq_eq_false_iff_ne]
       intro e
       refine hA ⟨rfl,?_⟩
       rw [List.getElem?_eq_getElem hk1] at e ⊢
       simpa using e
      generalize xs[k + 1]?.getD 0 = u1 at c1 hne
      have hk1':(k:Int) + 1 < (xs.length:Int):=by omega
      clear hx hcn hA hI
      go_wp2_with (at_builtin;refine wpList_append_own _ rfl _ _ 55 rfl w1.heap.size 3 i0 (.int .i64 0) 1 8 Tryz.underlying55 hi hz0 hz1 hz2 rfl (by decide) _ _ _ rfl (hrow.alloc _) ⟨wr.heap.size,0,none⟩ 1 1 [.int .i64 10] rfl rfl (cell_one_new _ _ _) (fun x hx => by simp at hx;subst hx;rfl) (by unfold maxLen;omega) (by omega) (by have:=hb.size;simp;omega) ?_;intro v' w3 hown' hgrow3 hnil3)
      refine ⟨⟨k + 1,pre ++ [10],by go_num,by omega,by simp;omega,HN,?_,below_appended hb hrow hgrow3⟩,by simp [intOf];omega⟩
      simpa using hown'
     ·have hk1':¬ (k:Int) + 1 < (xs.length:Int):=by omega
      clear hx hcn hA hI
      go_wp2_with (at_builtin;refine wpList_append_own _ rfl _ _ 55 rfl w1.heap.size 3 i0 (.int .i64 0) 1 8 Tryz.underlying55 hi hz0 hz1 hz2 rfl (by decide) _ _ _ rfl (hrow.alloc _) ⟨wr.heap.size,0,none⟩ 1 1 [.int .i64 10] rfl rfl (cell_one_new _ _ _) (fun x hx => by simp at hx;subst hx;rfl) (by unfold maxLen;omega) (by omega) (by have:=hb.size;simp;omega) ?_;intro v' w3 hown' hgrow3 hnil3)
      refine ⟨⟨k + 1,pre ++ [10],by go_num,by omega,by simp;omega,HN,?_,below_appended hb hrow hgrow3⟩,by simp [intOf];omega⟩
      simpa using hown'
    ·have e13:(u == 13) = false:=by simpa using h13
     by_cases h12:u = 12
     ·subst h12
      have HN:Hid (_ = _):=(show rp xs = (pre ++ [10]) ++ rp (xs.drop (k + 1)) from hx)
      clear hx hcn hA hI h13 e13
      go_wp2_with (at_builtin;refine wpList_append_own _ rfl _ _ 55 rfl w1.heap.size 3 i0 (.int .i64 0) 1 8 Tryz.underlying55 hi hz0 hz1 hz2 rfl (by decide) _ _ _ rfl (hrow.alloc _) ⟨wr.heap.size,0,none⟩ 1 1 [.int .i64 10] rfl rfl (cell_one_new _ _ _) (fun x hx => by simp at hx;subst hx;rfl) (by unfold maxLen;omega) (by omega) (by have:=hb.size;simp;omega) ?_;intro v' w3 hown' hgrow3 hnil3)
      refine ⟨⟨k + 1,pre ++ [10],by go_num,by omega,by simp;omega,HN,?_,below_appended hb hrow hgrow3⟩,by simp [intOf];omega⟩
      simpa using hown'
     ·have e12:(u == 12) = false:=by simpa using h12
      by_cases h0:u = 0
      ·subst h0
       have HN:Hid (_ = _):=(show rp xs = (pre ++ [65533]) ++ rp (xs.drop (k + 1)) from hx)
       clear hx hcn hA hI h13 e13 h12 e12
       go_wp2_with (at_builtin;refine wpList_append_own _ rfl _ _ 55 rfl w1.heap.size 3 i0 (.int .i64 0) 1 8 Tryz.underlying55 hi hz0 hz1 hz2 rfl (by decide) _ _ _ rfl (hrow.alloc _) ⟨wr.heap.size,0,none⟩ 1 1 [.int .i64 65533] rfl rfl (cell_one_new _ _ _) (fun x hx => by simp at hx;subst hx;rfl) (by unfold maxLen;omega) (by omega) (by have:=hb.size;simp;omega) ?_;intro v' w3 hown' hgrow3 hnil3)
       refine ⟨⟨k + 1,pre ++ [65533],by go_num,by omega,by simp;omega,HN,?_,below_appended hb hrow hgrow3⟩,by simp [intOf];omega⟩
       simpa using hown'
      ·have e0:(u == 0) = false:=by simpa using h0
       rw [show repl u = u from by simp [repl,h13,h12,h0]] at hx
       have HN:Hid (_ = _):=hx
       clear hx hcn hA hI h13 h12 h0
       go_wp2_with (at_builtin;refine wpList_append_own _ rfl _ _ 55 rfl w1.heap.size 3 i0 (.int .i64 0) 1 8 Tryz.underlying55 hi hz0 hz1 hz2 rfl (by decide) _ _ _ rfl (hrow.alloc _) ⟨wr.heap.size,0,none⟩ 1 1 [.int .i64 u] rfl rfl (cell_one_new _ _ _) (fun x hx => by simp at hx;subst hx;rfl) (by unfold maxLen;omega) (by omega) (by have:=hb.size;simp;omega) ?_;intro v' w3 hown' hgrow3 hnil3)
       refine ⟨⟨k + 1,pre ++ [u],by go_num,by omega,by simp;omega,HN,?_,below_appended hb hrow hgrow3⟩,by simp [intOf];omega⟩
       simpa using hown'
  ·have hki:¬ (k:Int) < (xs.length:Int):=by omega
   have HX:Hid (_ = _):=hx
   clear hx
   go_wp2
   go_ret
   have hd:xs.drop k = []:=List.drop_eq_nil_iff.2 (by omega)
   have e:rp xs = pre:=by rw [show rp xs = _ from HX,hd,rp,List.append_nil]
   rw [e]
   exact ⟨_,rfl,owns_base hrow hb1.size,hb1.trans (hb.mono hb1.size)⟩
end Go.Proofs.YtcmmdojlhfmddaaGreat
