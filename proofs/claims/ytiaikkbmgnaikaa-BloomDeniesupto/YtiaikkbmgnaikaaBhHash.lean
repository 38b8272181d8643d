/- Package bloom: Hash at every text; the document's own Hash. -/
import Derived.Test.YtiaikkbmgnaikaaBhSpec
import Derived.WalkKit
import Derived.Laws.IdiomStrings
namespace Go.Proofs.Ytiaikkbmgnaikaa.Bl
open Go Go.RowKit

theorem get_at (s : ByteArray) (k : Nat) (h : k < s.size) : s[k] = s.get! k := by
  show s.data[k]'h = s.data[k]!
  exact (getElem!_pos s.data k h).symm
theorem take_byte (s : ByteArray) (k : Nat) (h : k < s.size) : s.data.toList.take (k + 1) = s.data.toList.take k ++ [s.get! k] := by
  have h' : k < s.data.toList.length := by rw [Array.length_toList]; exact h
  rw [List.take_succ_eq_append_getElem h', ← get_at s k h]
  congr 1
theorem size_len (s : ByteArray) : s.data.toList.length = s.size := Array.length_toList
def startV (kind : Int) : Nat := mixV 2166136261 (kind % 256).toNat
/-- The hash of the first k bytes. -/
def partV (kind : Int) (s : ByteArray) (k : Nat) : Nat := (s.data.toList.take k).foldl (fun h b => mixV h b.toNat) (startV kind)
theorem part_lt (kind : Int) (s : ByteArray) (k : Nat) : partV kind s k < 4294967296 := hash_fold_lt _ _ (mix_lt _ _)
theorem part_next (kind : Int) (s : ByteArray) (k : Nat) (h : k < s.size) : partV kind s (k + 1) = mixV (partV kind s k) (s.get! k).toNat := by
  unfold partV
  rw [take_byte s k h, List.foldl_append, List.foldl_cons, List.foldl_nil]
theorem part_zero (kind : Int) (s : ByteArray) : partV kind s 0 = startV kind := by unfold partV; rw [List.take_zero, List.foldl_nil]
theorem part_end (kind : Int) (s : ByteArray) : partV kind s s.size = hashV kind s := by
  unfold partV hashV startV
  rw [← size_len, List.take_length]

set_option maxRecDepth 100000 in
theorem mixed_any (h b : Nat) (hh : h < 4294967296) (hb : b < 256) (w : World) : Calls Try.prog 24 #[.int .u32 (h : Int), .int .u8 (b : Int)] w fun e w' => e = .returned (.int .u32 (mixV h b)) ∧ w' = w := by
  have h1 := xor32 hh (b := b) (by omega)
  have HM : Hid ((((h ^^^ b : Nat) : Int) * 16777619 % 4294967296) = (mixV h b : Int)) := by show _ = _; unfold mixV; omega
  go_enter Try.func24, Try.ntmps24
  go_wp2
  rw [HM.out]
  go_ret
  exact ⟨rfl, rfl⟩

set_option maxRecDepth 100000 in
set_option maxHeartbeats 400000 in
theorem hash_any (kind : Int) (s : ByteArray) (hs : s.size ≤ 281474976710656) (w : World) : Calls Try.prog 10 #[.int .i64 kind, .string s] w fun e w' => e = .returned (.int .i64 (hashV kind s)) ∧ w' = w := by
  have h0 := mixed_any 2166136261 (kind % 256).toNat (by decide) (by omega) w
  have hk : ((kind % 256).toNat : Int) = kind % 256 := by omega
  rw [hk] at h0
  clear hk
  go_enter Try.func10, Try.ntmps10
  go_wp2_with fail
  go_at_call 24
  refine Calls.mono h0 ?_
  clear h0
  rintro e w1 ⟨rfl, rfl⟩
  have hst : mixV 2166136261 (kind % 256).toNat = partV kind s 0 := (part_zero kind s).symm
  rw [hst]
  go_wp2_with fail
  go_loopw [5, 12] (fun y x wr => ∃ k : Nat, y = .int .u32 (partV kind s k : Nat) ∧ x = .int .i64 k ∧ k ≤ s.size ∧ wr = w1) (fun _ x _ => s.size - (intOf x).toNat)
  case atStart => exact ⟨0, rfl, rfl, Nat.zero_le _, rfl⟩
  case round =>
    obtain ⟨k, rfl, rfl, hk, rfl⟩ := hrel
    by_cases hkn : k < s.size
    · have hlt : decide (k < s.size) = true := by simpa using hkn
      have hget := get_at s k hkn
      have hm := mixed_any (partV kind s k) (s.get! k).toNat (part_lt kind s k) (UInt8.toNat_lt _) wr
      rw [← part_next kind s k hkn] at hm
      have hki : (k : Int) < (s.size : Int) := by omega
      obtain ⟨P, hP⟩ : ∃ P, P = partV kind s k := ⟨_, rfl⟩
      obtain ⟨Q, hQ⟩ : ∃ Q, Q = partV kind s (k + 1) := ⟨_, rfl⟩
      rw [← hP] at hm ⊢
      rw [← hQ] at hm
      have HQ : Hid (_ = _) := hQ
      generalize s.get! k = c at *
      clear hP hQ hst hk
      go_wp2_with fail
      go_at_call 24
      refine Calls.mono hm ?_
      clear hm
      rintro e w2 ⟨rfl, rfl⟩
      go_wp2
      go_roundw
      case rel => exact ⟨k + 1, by rw [HQ.out], by go_num, by omega, trivial⟩
      case measure => simp [intOf] <;> omega
    · have hlt : decide (k < s.size) = false := by simpa using hkn
      obtain rfl : k = s.size := by omega
      rw [part_end]
      have hl := hash_lt kind s
      clear hst hk hkn
      go_wp2
      go_ret
      exact ⟨rfl, rfl⟩

set_option maxRecDepth 100000 in
set_option maxHeartbeats 400000 in
theorem refHash_any (kind : Int) (s : ByteArray) (hs : s.size ≤ 281474976710656) (w : World) : Calls Try.prog 11 #[.int .i64 kind, .string s] w fun e w' => e = .returned (.int .i64 (hashV kind s)) ∧ w' = w := by
  obtain ⟨K, hK⟩ : ∃ K, K = (kind % 256).toNat := ⟨_, rfl⟩
  have hKl : K < 256 := by omega
  have hb := byte64 kind
  rw [← hK] at hb
  have hx := xor64 (h := 2166136261) (b := K) (by decide) (by omega)
  have hxl := xor_lt (h := 2166136261) (b := K) (by decide) (by omega)
  have hmu := mul64 hxl
  have hlo := low64 (2166136261 ^^^ K)
  have hst : (2166136261 ^^^ K) * 16777619 % 4294967296 = partV kind s 0 := by rw [part_zero, hK, startV, mixV]
  rw [hst] at hlo
  have hx' : bits BinOp.xor IntKind.i64 (2166136261 : Int) (K : Int) = ((2166136261 ^^^ K : Nat) : Int) := hx
  obtain ⟨X, hX⟩ : ∃ X, X = 2166136261 ^^^ K := ⟨_, rfl⟩
  rw [← hX] at hx' hmu hlo hxl
  clear hst hx hX hK
  go_enter Try.func11, Try.ntmps11
  go_wp2_with fail
  clear hb hx' hmu hlo
  go_loopw [5, 6] (fun y x wr => ∃ k : Nat, y = .int .i64 (partV kind s k : Nat) ∧ x = .int .i64 k ∧ k ≤ s.size ∧ wr = w) (fun _ x _ => s.size - (intOf x).toNat)
  case atStart => exact ⟨0, rfl, rfl, Nat.zero_le _, rfl⟩
  case round =>
    obtain ⟨k, rfl, rfl, hk, rfl⟩ := hrel
    by_cases hkn : k < s.size
    · have hlt : decide (k < s.size) = true := by simpa using hkn
      have hget := get_at s k hkn
      have hpn := part_next kind s k hkn
      have hpl := part_lt kind s k
      have hki : (k : Int) < (s.size : Int) := by omega
      obtain ⟨P, hP⟩ : ∃ P, P = partV kind s k := ⟨_, rfl⟩
      rw [← hP] at hpn hpl ⊢
      generalize s.get! k = c at *
      have hcl : c.toNat < 256 := UInt8.toNat_lt _
      have hx := xor64 (h := P) (b := c.toNat) hpl (by omega)
      have hxl := xor_lt (h := P) (b := c.toNat) hpl (by omega)
      have hmu := mul64 hxl
      have hlo := low64 (P ^^^ c.toNat)
      have hq : (P ^^^ c.toNat) * 16777619 % 4294967296 = partV kind s (k + 1) := by rw [hpn, mixV]
      rw [hq] at hlo
      obtain ⟨X, hX⟩ : ∃ X, X = P ^^^ c.toNat := ⟨_, rfl⟩
      rw [← hX] at hx hmu hlo hxl
      clear hpn hP hX hq hk
      go_wp2
      go_roundw
      case rel => exact ⟨k + 1, rfl, by go_num, by omega, trivial⟩
      case measure => simp [intOf] <;> omega
    · have hlt : decide (k < s.size) = false := by simpa using hkn
      obtain rfl : k = s.size := by omega
      rw [part_end]
      clear hk hkn
      go_wp2
      go_ret
      exact ⟨rfl, rfl⟩

end Go.Proofs.Ytiaikkbmgnaikaa.Bl
