/- package value: color, at every string. -/
import Derived.Test.YtghjpefkeobfnabDoorVlWord
namespace Go.Proofs.YtghjpefkeobfnabDoor.Vl
open Go Go.RowKit

theorem size_list (s : ByteArray) : s.data.toList.length = s.size := Array.length_toList
theorem drop_at {s : ByteArray} {k : Nat} (hk : k < s.size) : s.data.toList.drop k = (s[k]'hk) :: s.data.toList.drop (k + 1) := by
  rw [List.drop_eq_getElem_cons (by rw [size_list]; exact hk)]
  congr 1
theorem get_at (s : ByteArray) (k : Nat) (h : k < s.size) : s[k] = s.get! k := by
  show s.data[k]'h = s.data[k]!
  rw [getElem!_pos s.data k h]
/-- How great the number is, at the digit k. -/
def Bnd (sh : Bool) (k : Nat) (n : Int) : Prop := 0 ≤ n ∧ n < 16 ^ (if sh then 2 * k else k)
theorem Bnd.start (sh : Bool) : Bnd sh 0 0 := by cases sh <;> simp [Bnd]
theorem Bnd.next {sh : Bool} {k : Nat} {n d : Int} (h : Bnd sh k n) (h0 : 0 ≤ d) (h1 : d ≤ 15) : Bnd sh (k + 1) (more sh n d) := by
  unfold Bnd at *
  obtain ⟨a, b⟩ := h
  cases sh with
  | true =>
    simp only [if_true, more] at *
    rw [show 2 * (k + 1) = 2 * k + 1 + 1 by omega, Int.pow_succ, Int.pow_succ]
    generalize (16 : Int) ^ (2 * k) = q at *
    omega
  | false =>
    simp only [Bool.false_eq_true, if_false, more] at *
    rw [Int.pow_succ]
    generalize (16 : Int) ^ k = q at *
    omega
theorem Bnd.small {sh : Bool} {k : Nat} {n : Int} (h : Bnd sh k n) (hk : k ≤ 6) : 0 ≤ n ∧ n ≤ 281474976710656 := by
  obtain ⟨a, b⟩ := h
  have : (16 : Int) ^ (if sh then 2 * k else k) ≤ 16 ^ 12 := by
    have h2 : (if sh then 2 * k else k) ≤ 12 := by split <;> omega
    exact_mod_cast Nat.pow_le_pow_right (by omega) h2
  have e : (16 : Int) ^ 12 = 281474976710656 := by decide
  omega

set_option maxRecDepth 100000 in
set_option maxHeartbeats 2000000 in
theorem color_any (p : Int) (s : ByteArray) (w : World) :
    Calls Tryd.prog 15 #[.int .i64 p, .string s] w fun e w' => e = ret (colorV p s.data.toList) ∧ Below w.heap.size w w' := by
  have b0 := zero_new w
  have k0 := Blk.new w 26 [.int .i64 0, .int .i64 0]
  obtain ⟨V, hV⟩ : ∃ V, colorV p s.data.toList = V := ⟨_, rfl⟩
  rw [hV]
  unfold colorV colorN at hV
  rw [size_list] at hV
  go_enter Tryd.func15, Tryd.ntmps15
  go_upto_region 1 with fail
  replace k0 : Blk (w.alloc (.cells #[.int .i64 0, .int .i64 0] 26)) w.heap.size _ _ := k0
  generalize w.alloc (.cells #[.int .i64 0, .int .i64 0] 26) = W at *
  obtain ⟨⟨c0, c1⟩, f0, f1⟩ := blk2 k0
  have hB := k0.lt
  have HF : Hid (∀ a b, Below w.heap.size w (set2 W w.heap.size a b)) := fun a b => below_grown b0 (grown_set2 W w.heap.size a b) (by omega) (Nat.le_refl _)
  by_cases hp : p = 0
  · subst hp
    rw [if_pos rfl] at hV
    have HD : Hid (∀ (c : UInt8) (X : World), Calls Tryd.prog 19 #[.int .u8 c.toNat] X fun e w' => e = .returned (.tuple #[.int .i64 (digV c).1, .bool (digV c).2]) ∧ w' = X) := fun c X => digit_any c X
    by_cases h3 : s.size = 3
    · rw [if_pos (.inl h3), show (s.size == 3) = true by simp [h3]] at hV
      have HV : Hid ((match colF true 0 s.data.toList with
        | some n => ((6, n, true) : Vv)
        | none => no) = V) := hV
      have hs6 : s.size ≤ 6 := by omega
      have g3 : ((s.size : Int) != 3) = false := by simp [h3]
      have g3' : ((s.size : Int) == 3) = true := by simp [h3]
      clear hV h3
      go_wp2
      go_loopw [6, 25] (fun n i wr => ∃ (k : Nat) (m : Int), n = .int .i64 m ∧ i = .int .i64 k ∧ k ≤ s.size ∧ Hid (colF true m (s.data.toList.drop k) = colF true 0 s.data.toList) ∧ Hid (Bnd true k m) ∧ Below w.heap.size w wr ∧ Blk wr w.heap.size 26 [.int .i64 0, .int .i64 0]) (fun _ i _ => s.size - (intOf i).toNat)
      case atStart => exact ⟨0, 0, rfl, rfl, Nat.zero_le _, rfl, Bnd.start _, b0, k0⟩
      case round =>
        obtain ⟨k, m, rfl, rfl, hk, HC, HN, hb, hk0⟩ := hrel
        clear k0 c0 c1 f0 f1 HF
        obtain ⟨⟨c0, c1⟩, f0, f1⟩ := blk2 hk0
        have hsz := hb.size
        have HF : Hid (∀ a b, Below w.heap.size w (set2 wr w.heap.size a b)) := fun a b => below_grown hb (grown_set2 wr w.heap.size a b) hsz (Nat.le_refl _)
        by_cases hlt : k < s.size
        · have hki : (k : Int) < (s.size : Int) := by omega
          have hget := get_at s k hlt
          have hm := Bnd.small HN (by omega)
          have hdig := (show ∀ (c : UInt8) (X : World), Calls Tryd.prog 19 #[.int .u8 c.toNat] X fun e w' => e = .returned (.tuple #[.int .i64 (digV c).1, .bool (digV c).2]) ∧ w' = X from HD) (s.get! k)
          have hbd := digV_bounds (s.get! k)
          have hst : colF true m (s.data.toList.drop k) = if (digV (s.get! k)).2 then colF true (more true m (digV (s.get! k)).1) (s.data.toList.drop (k + 1)) else none := by
            rw [drop_at hlt, hget]
            rfl
          rw [show colF true m (s.data.toList.drop k) = _ from HC] at hst
          have hbn : Bnd true (k + 1) (more true m (digV (s.get! k)).1) := Bnd.next HN hbd.1 hbd.2
          generalize s.get! k = c at *
          obtain ⟨d, ok, hd⟩ : ∃ d ok, digV c = (d, ok) := ⟨_, _, rfl⟩
          rw [hd] at hdig hbd hst hbn
          simp only at hdig hbd hst hbn
          have hcl := c.toNat_lt
          clear HC HN HD hd
          cases ok with
          | false =>
            obtain rfl : no = V := by
              have : colF true 0 s.data.toList = none := by simpa using hst
              have h2 := HV
              unfold Hid at h2
              rw [this] at h2
              exact h2
            clear hst hbn HV
            go_wp2_with fail
            refine (hdig _).mono ?_
            clear hdig
            rintro e w1 ⟨rfl, rfl⟩
            go_wp2
            refine bodyPost_ret (results_struct_tmp rfl _ _ w.heap.size _ rfl (load_val (blk_set2 hk0 _ _))) rfl ?_
            exact ⟨rfl, HF _ _⟩
          | true =>
            have HC' : Hid (colF true (more true m d) (s.data.toList.drop (k + 1)) = colF true 0 s.data.toList) := by unfold Hid; simpa using hst.symm
            have w1 : IntKind.i64.wrap (16 * m) = 16 * m := by rw [IntKind.wrap_i64]; omega
            have w2 : IntKind.i64.wrap (16 * m + d) = 16 * m + d := by rw [IntKind.wrap_i64]; omega
            have w3 : IntKind.i64.wrap (16 * (16 * m + d)) = 16 * (16 * m + d) := by rw [IntKind.wrap_i64]; omega
            have w4 : IntKind.i64.wrap (16 * (16 * m + d) + d) = 16 * (16 * m + d) + d := by rw [IntKind.wrap_i64]; omega
            have HB' : Hid (Bnd true (k + 1) (more true m d)) := hbn
            clear hst hbn HV
            go_wp2_with fail
            refine (hdig _).mono ?_
            clear hdig
            rintro e wq ⟨rfl, rfl⟩
            go_wp2
            exact ⟨⟨k + 1, more true m d, rfl, by go_num, by omega, HC', HB', hb, hk0⟩, by simp [intOf]; omega⟩
        · have hki : ¬ (k : Int) < (s.size : Int) := by omega
          obtain rfl : (6, m, true) = V := by
            have h1 := HC
            unfold Hid at h1
            rw [List.drop_eq_nil_of_le (by rw [size_list]; omega)] at h1
            have h2 := HV
            unfold Hid at h2
            rw [← h1] at h2
            exact h2
          clear HV HC HN HD
          go_wp2
          refine bodyPost_ret (results_struct_tmp rfl _ _ w.heap.size _ rfl (load_val (blk_set2 hk0 _ _))) rfl ?_
          exact ⟨rfl, HF _ _⟩
    have g3 : ((s.size : Int) != 3) = true := by simp; omega
    have g3' : ((s.size : Int) == 3) = false := by simp; omega
    by_cases h6 : s.size = 6
    · rw [if_pos (.inr h6), show (s.size == 3) = false by simp [h6]] at hV
      have HV : Hid ((match colF false 0 s.data.toList with
        | some n => ((6, n, true) : Vv)
        | none => no) = V) := hV
      have hs6 : s.size ≤ 6 := by omega
      have g6 : ((s.size : Int) != 6) = false := by simp [h6]
      clear hV h6 h3
      go_wp2
      go_loopw [6, 25] (fun n i wr => ∃ (k : Nat) (m : Int), n = .int .i64 m ∧ i = .int .i64 k ∧ k ≤ s.size ∧ Hid (colF false m (s.data.toList.drop k) = colF false 0 s.data.toList) ∧ Hid (Bnd false k m) ∧ Below w.heap.size w wr ∧ Blk wr w.heap.size 26 [.int .i64 0, .int .i64 0]) (fun _ i _ => s.size - (intOf i).toNat)
      case atStart => exact ⟨0, 0, rfl, rfl, Nat.zero_le _, rfl, Bnd.start _, b0, k0⟩
      case round =>
        obtain ⟨k, m, rfl, rfl, hk, HC, HN, hb, hk0⟩ := hrel
        clear k0 c0 c1 f0 f1 HF
        obtain ⟨⟨c0, c1⟩, f0, f1⟩ := blk2 hk0
        have hsz := hb.size
        have HF : Hid (∀ a b, Below w.heap.size w (set2 wr w.heap.size a b)) := fun a b => below_grown hb (grown_set2 wr w.heap.size a b) hsz (Nat.le_refl _)
        by_cases hlt : k < s.size
        · have hki : (k : Int) < (s.size : Int) := by omega
          have hget := get_at s k hlt
          have hm := Bnd.small HN (by omega)
          have hdig := (show ∀ (c : UInt8) (X : World), Calls Tryd.prog 19 #[.int .u8 c.toNat] X fun e w' => e = .returned (.tuple #[.int .i64 (digV c).1, .bool (digV c).2]) ∧ w' = X from HD) (s.get! k)
          have hbd := digV_bounds (s.get! k)
          have hst : colF false m (s.data.toList.drop k) = if (digV (s.get! k)).2 then colF false (more false m (digV (s.get! k)).1) (s.data.toList.drop (k + 1)) else none := by
            rw [drop_at hlt, hget]
            rfl
          rw [show colF false m (s.data.toList.drop k) = _ from HC] at hst
          have hbn : Bnd false (k + 1) (more false m (digV (s.get! k)).1) := Bnd.next HN hbd.1 hbd.2
          generalize s.get! k = c at *
          obtain ⟨d, ok, hd⟩ : ∃ d ok, digV c = (d, ok) := ⟨_, _, rfl⟩
          rw [hd] at hdig hbd hst hbn
          simp only at hdig hbd hst hbn
          have hcl := c.toNat_lt
          clear HC HN HD hd
          cases ok with
          | false =>
            obtain rfl : no = V := by
              have : colF false 0 s.data.toList = none := by simpa using hst
              have h2 := HV
              unfold Hid at h2
              rw [this] at h2
              exact h2
            clear hst hbn HV
            go_wp2_with fail
            refine (hdig _).mono ?_
            clear hdig
            rintro e w1 ⟨rfl, rfl⟩
            go_wp2
            refine bodyPost_ret (results_struct_tmp rfl _ _ w.heap.size _ rfl (load_val (blk_set2 hk0 _ _))) rfl ?_
            exact ⟨rfl, HF _ _⟩
          | true =>
            have HC' : Hid (colF false (more false m d) (s.data.toList.drop (k + 1)) = colF false 0 s.data.toList) := by unfold Hid; simpa using hst.symm
            have w1 : IntKind.i64.wrap (16 * m) = 16 * m := by rw [IntKind.wrap_i64]; omega
            have w2 : IntKind.i64.wrap (16 * m + d) = 16 * m + d := by rw [IntKind.wrap_i64]; omega
            have w3 : IntKind.i64.wrap (16 * (16 * m + d)) = 16 * (16 * m + d) := by rw [IntKind.wrap_i64]; omega
            have w4 : IntKind.i64.wrap (16 * (16 * m + d) + d) = 16 * (16 * m + d) + d := by rw [IntKind.wrap_i64]; omega
            have HB' : Hid (Bnd false (k + 1) (more false m d)) := hbn
            clear hst hbn HV
            go_wp2_with fail
            refine (hdig _).mono ?_
            clear hdig
            rintro e wq ⟨rfl, rfl⟩
            go_wp2
            exact ⟨⟨k + 1, more false m d, rfl, by go_num, by omega, HC', HB', hb, hk0⟩, by simp [intOf]; omega⟩
        · have hki : ¬ (k : Int) < (s.size : Int) := by omega
          obtain rfl : (6, m, true) = V := by
            have h1 := HC
            unfold Hid at h1
            rw [List.drop_eq_nil_of_le (by rw [size_list]; omega)] at h1
            have h2 := HV
            unfold Hid at h2
            rw [← h1] at h2
            exact h2
          clear HV HC HN HD
          go_wp2
          refine bodyPost_ret (results_struct_tmp rfl _ _ w.heap.size _ rfl (load_val (blk_set2 hk0 _ _))) rfl ?_
          exact ⟨rfl, HF _ _⟩
    · have g6 : ((s.size : Int) != 6) = true := by simp; omega
      obtain rfl : no = V := by
        rw [← hV, if_neg (by omega)]
      clear hV h6 h3
      go_wp2
      refine bodyPost_ret (results_struct_tmp rfl _ _ w.heap.size _ rfl (load_val (blk_set2 k0 _ _))) rfl ?_
      exact ⟨rfl, HF _ _⟩
  · have ep : (p != 0) = true := by simpa using hp
    obtain rfl : no = V := by rw [← hV, if_neg hp]
    clear hV hp
    go_wp2
    refine bodyPost_ret (results_struct_tmp rfl _ _ w.heap.size _ rfl (load_val (blk_set2 k0 _ _))) rfl ?_
    exact ⟨rfl, HF _ _⟩

end Go.Proofs.YtghjpefkeobfnabDoor.Vl
