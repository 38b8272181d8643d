/- The document's own color, key, length, at every input. -/
import Derived.Test.YtghjpefkeobfnaaDoorVlRef
namespace Go.Proofs.YtghjpefkeobfnaaDoor.Vl
open Go Go.RowKit

def colorP (s : List UInt8) : Int × Bool := match colorN s with
  | some n => (n, true)
  | none => (0, false)

set_option maxRecDepth 100000 in
set_option maxHeartbeats 2000000 in
theorem refColor_any (s : ByteArray) (w : World) :
    Calls Tryd.prog 27 #[.string s] w fun e w' => e = .returned (.tuple #[.int .i64 (colorP s.data.toList).1, .bool (colorP s.data.toList).2]) ∧ w' = w := by
  obtain ⟨V, hV⟩ : ∃ V, colorP s.data.toList = V := ⟨_, rfl⟩
  rw [hV]
  unfold colorP colorN at hV
  rw [size_list] at hV
  have HD : Hid (∀ (c : UInt8) (X : World), Calls Tryd.prog 37 #[.int .i64 c.toNat] X fun e w' => e = .returned (.int .i64 (hexV c)) ∧ w' = X) := fun c X => hex_any c X
  go_enter Tryd.func27, Tryd.ntmps27
  by_cases h3 : s.size = 3
  · rw [if_pos (.inl h3), show (s.size == 3) = true by simp [h3]] at hV
    have HV : Hid ((match colF true 0 s.data.toList with
      | some n => ((n, true) : Int × Bool)
      | none => (0, false)) = V) := hV
    have hs6 : s.size ≤ 6 := by omega
    have g3 : ((s.size : Int) != 3) = false := by simp [h3]
    have g3' : ((s.size : Int) == 3) = true := by simp [h3]
    clear hV h3
    go_wp2
    go_loopw [4, 5] (fun n i wr => ∃ (k : Nat) (m : Int), n = .int .i64 m ∧ i = .int .i64 k ∧ k ≤ s.size ∧ Hid (colF true m (s.data.toList.drop k) = colF true 0 s.data.toList) ∧ Hid (Bnd true k m) ∧ w = wr) (fun _ i _ => s.size - (intOf i).toNat)
    case atStart => exact ⟨0, 0, rfl, rfl, Nat.zero_le _, rfl, Bnd.start _, rfl⟩
    case round =>
      obtain ⟨k, m, rfl, rfl, hk, HC, HN, rfl⟩ := hrel
      by_cases hlt : k < s.size
      · have hki : (k : Int) < (s.size : Int) := by omega
        have hget := get_at s k hlt
        have hm := Bnd.small HN (by omega)
        have hdig := (show ∀ (c : UInt8) (X : World), Calls Tryd.prog 37 #[.int .i64 c.toNat] X fun e w' => e = .returned (.int .i64 (hexV c)) ∧ w' = X from HD) (s.get! k)
        have hbd := digV_bounds (s.get! k)
        have hst : colF true m (s.data.toList.drop k) = if (digV (s.get! k)).2 then colF true (more true m (digV (s.get! k)).1) (s.data.toList.drop (k + 1)) else none := by
          rw [drop_at hlt, hget]
          rfl
        rw [show colF true m (s.data.toList.drop k) = _ from HC] at hst
        have hbn : Bnd true (k + 1) (more true m (digV (s.get! k)).1) := Bnd.next HN hbd.1 hbd.2
        have hcw : IntKind.i64.wrap ((s.get! k).toNat : Int) = ((s.get! k).toNat : Int) := by have := (s.get! k).toNat_lt; rw [IntKind.wrap_i64]; omega
        generalize s.get! k = c at *
        unfold hexV at hdig
        obtain ⟨d, ok, hd⟩ : ∃ d ok, digV c = (d, ok) := ⟨_, _, rfl⟩
        rw [hd] at hdig hbd hst hbn
        simp only at hdig hbd hst hbn
        have hcl := c.toNat_lt
        clear HC HN HD hd
        cases ok with
        | false =>
          obtain rfl : ((0 : Int), false) = V := by
            have : colF true 0 s.data.toList = none := by simpa using hst
            have h2 := HV
            unfold Hid at h2
            rw [this] at h2
            exact h2
          clear hst hbn HV
          simp only [Bool.false_eq_true, if_false] at hdig
          go_wp2_with fail
          refine (hdig _).mono ?_
          clear hdig
          rintro e w1 ⟨rfl, rfl⟩
          go_wp2
          go_ret2
          exact ⟨rfl, rfl⟩
        | true =>
          have HC' : Hid (colF true (more true m d) (s.data.toList.drop (k + 1)) = colF true 0 s.data.toList) := by unfold Hid; simpa using hst.symm
          have w1 : IntKind.i64.wrap (m * 16) = 16 * m := by rw [IntKind.wrap_i64]; omega
          have w2 : IntKind.i64.wrap (16 * m + d) = 16 * m + d := by rw [IntKind.wrap_i64]; omega
          have w3 : IntKind.i64.wrap ((16 * m + d) * 16) = 16 * (16 * m + d) := by rw [IntKind.wrap_i64]; omega
          have w4 : IntKind.i64.wrap (16 * (16 * m + d) + d) = 16 * (16 * m + d) + d := by rw [IntKind.wrap_i64]; omega
          have hd0 : ¬ d < 0 := by omega
          have HB' : Hid (Bnd true (k + 1) (more true m d)) := hbn
          clear hst hbn HV
          simp only [if_true] at hdig
          go_wp2_with fail
          refine (hdig _).mono ?_
          clear hdig
          rintro e wq ⟨rfl, rfl⟩
          go_wp2
          exact ⟨⟨k + 1, more true m d, rfl, by go_num, by omega, HC', HB', trivial⟩, by simp [intOf]; omega⟩
      · have hki : ¬ (k : Int) < (s.size : Int) := by omega
        obtain rfl : (m, true) = V := by
          have h1 := HC
          unfold Hid at h1
          rw [List.drop_eq_nil_of_le (by rw [size_list]; omega)] at h1
          have h2 := HV
          unfold Hid at h2
          rw [← h1] at h2
          exact h2
        clear HV HC HN HD
        go_wp2
        go_ret2
        exact ⟨rfl, rfl⟩
  have g3 : ((s.size : Int) != 3) = true := by simp; omega
  have g3' : ((s.size : Int) == 3) = false := by simp; omega
  by_cases h6 : s.size = 6
  · rw [if_pos (.inr h6), show (s.size == 3) = false by simp [h6]] at hV
    have HV : Hid ((match colF false 0 s.data.toList with
      | some n => ((n, true) : Int × Bool)
      | none => (0, false)) = V) := hV
    have hs6 : s.size ≤ 6 := by omega
    have g6 : ((s.size : Int) != 6) = false := by simp [h6]
    clear hV h6 h3
    go_wp2
    go_loopw [4, 5] (fun n i wr => ∃ (k : Nat) (m : Int), n = .int .i64 m ∧ i = .int .i64 k ∧ k ≤ s.size ∧ Hid (colF false m (s.data.toList.drop k) = colF false 0 s.data.toList) ∧ Hid (Bnd false k m) ∧ w = wr) (fun _ i _ => s.size - (intOf i).toNat)
    case atStart => exact ⟨0, 0, rfl, rfl, Nat.zero_le _, rfl, Bnd.start _, rfl⟩
    case round =>
      obtain ⟨k, m, rfl, rfl, hk, HC, HN, rfl⟩ := hrel
      by_cases hlt : k < s.size
      · have hki : (k : Int) < (s.size : Int) := by omega
        have hget := get_at s k hlt
        have hm := Bnd.small HN (by omega)
        have hdig := (show ∀ (c : UInt8) (X : World), Calls Tryd.prog 37 #[.int .i64 c.toNat] X fun e w' => e = .returned (.int .i64 (hexV c)) ∧ w' = X from HD) (s.get! k)
        have hbd := digV_bounds (s.get! k)
        have hst : colF false m (s.data.toList.drop k) = if (digV (s.get! k)).2 then colF false (more false m (digV (s.get! k)).1) (s.data.toList.drop (k + 1)) else none := by
          rw [drop_at hlt, hget]
          rfl
        rw [show colF false m (s.data.toList.drop k) = _ from HC] at hst
        have hbn : Bnd false (k + 1) (more false m (digV (s.get! k)).1) := Bnd.next HN hbd.1 hbd.2
        have hcw : IntKind.i64.wrap ((s.get! k).toNat : Int) = ((s.get! k).toNat : Int) := by have := (s.get! k).toNat_lt; rw [IntKind.wrap_i64]; omega
        generalize s.get! k = c at *
        unfold hexV at hdig
        obtain ⟨d, ok, hd⟩ : ∃ d ok, digV c = (d, ok) := ⟨_, _, rfl⟩
        rw [hd] at hdig hbd hst hbn
        simp only at hdig hbd hst hbn
        have hcl := c.toNat_lt
        clear HC HN HD hd
        cases ok with
        | false =>
          obtain rfl : ((0 : Int), false) = V := by
            have : colF false 0 s.data.toList = none := by simpa using hst
            have h2 := HV
            unfold Hid at h2
            rw [this] at h2
            exact h2
          clear hst hbn HV
          simp only [Bool.false_eq_true, if_false] at hdig
          go_wp2_with fail
          refine (hdig _).mono ?_
          clear hdig
          rintro e w1 ⟨rfl, rfl⟩
          go_wp2
          go_ret2
          exact ⟨rfl, rfl⟩
        | true =>
          have HC' : Hid (colF false (more false m d) (s.data.toList.drop (k + 1)) = colF false 0 s.data.toList) := by unfold Hid; simpa using hst.symm
          have w1 : IntKind.i64.wrap (m * 16) = 16 * m := by rw [IntKind.wrap_i64]; omega
          have w2 : IntKind.i64.wrap (16 * m + d) = 16 * m + d := by rw [IntKind.wrap_i64]; omega
          have w3 : IntKind.i64.wrap ((16 * m + d) * 16) = 16 * (16 * m + d) := by rw [IntKind.wrap_i64]; omega
          have w4 : IntKind.i64.wrap (16 * (16 * m + d) + d) = 16 * (16 * m + d) + d := by rw [IntKind.wrap_i64]; omega
          have hd0 : ¬ d < 0 := by omega
          have HB' : Hid (Bnd false (k + 1) (more false m d)) := hbn
          clear hst hbn HV
          simp only [if_true] at hdig
          go_wp2_with fail
          refine (hdig _).mono ?_
          clear hdig
          rintro e wq ⟨rfl, rfl⟩
          go_wp2
          exact ⟨⟨k + 1, more false m d, rfl, by go_num, by omega, HC', HB', trivial⟩, by simp [intOf]; omega⟩
      · have hki : ¬ (k : Int) < (s.size : Int) := by omega
        obtain rfl : (m, true) = V := by
          have h1 := HC
          unfold Hid at h1
          rw [List.drop_eq_nil_of_le (by rw [size_list]; omega)] at h1
          have h2 := HV
          unfold Hid at h2
          rw [← h1] at h2
          exact h2
        clear HV HC HN HD
        go_wp2
        go_ret2
        exact ⟨rfl, rfl⟩
  · have g6 : ((s.size : Int) != 6) = true := by simp; omega
    obtain rfl : ((0 : Int), false) = V := by
      rw [← hV, if_neg (by omega)]
    clear hV h6 h3
    go_wp2
    go_ret2
    exact ⟨rfl, rfl⟩

set_option maxRecDepth 100000 in
set_option maxHeartbeats 2000000 in
theorem refKey_any (t : Bt) (g cap : Nat) (ss : List (List UInt8)) (w : World) (hS : StrsIn w g ss) (hg : g < w.heap.size) (hl : ss.length ≤ 100) (ht : t.text.size ≤ maxLen) :
    Calls Tryd.prog 28 #[.agg #[.int .i64 t.kind, .string t.text, .int .i64 t.n, .bool t.whole, .int .i64 t.c], .slice (some ⟨g, 0, none⟩) ss.length cap] w fun e w' => e = ret (keyV t.kind (lowOf t) ss) ∧ Below w.heap.size w w' := by
  obtain ⟨V, hV⟩ : ∃ V, keyV t.kind (lowOf t) ss = V := ⟨_, rfl⟩
  rw [hV]
  unfold keyV at hV
  obtain ⟨kind, text, n, wh, c⟩ := t
  simp only [lowOf] at hV ht ⊢
  have hlow := fun X => Lw.refLower_any text X ht
  generalize Lw.low text.data.toList = low at *
  have b0 : Below w.heap.size w ((w.alloc (.cells #[.int .i64 kind, .string text, .int .i64 n, .bool wh, .int .i64 c] 25)).alloc (.cells #[.int .i64 0, .int .i64 0] 27)) := ((Below.refl _ w).alloc (Nat.le_refl _) _).alloc (by rw [World.size_alloc]; omega) _
  have kT : Blk ((w.alloc (.cells #[.int .i64 kind, .string text, .int .i64 n, .bool wh, .int .i64 c] 25)).alloc (.cells #[.int .i64 0, .int .i64 0] 27)) w.heap.size 25 [.int .i64 kind, .string text, .int .i64 n, .bool wh, .int .i64 c] := (Blk.new w 25 [.int .i64 kind, .string text, .int .i64 n, .bool wh, .int .i64 c]).kept (World.grownBy_alloc _ _ none) (by simp)
  have kV : Blk ((w.alloc (.cells #[.int .i64 kind, .string text, .int .i64 n, .bool wh, .int .i64 c] 25)).alloc (.cells #[.int .i64 0, .int .i64 0] 27)) (w.heap.size + 1) 27 [.int .i64 0, .int .i64 0] := by
    have := Blk.new (w.alloc (.cells #[.int .i64 kind, .string text, .int .i64 n, .bool wh, .int .i64 c] 25)) 27 [.int .i64 0, .int .i64 0]
    rwa [World.size_alloc] at this
  have hSz : ((w.alloc (.cells #[.int .i64 kind, .string text, .int .i64 n, .bool wh, .int .i64 c] 25)).alloc (.cells #[.int .i64 0, .int .i64 0] 27)).heap.size = w.heap.size + 2 := by rw [World.size_alloc, World.size_alloc]
  go_enter Tryd.func28, Tryd.ntmps28
  go_upto_region 1 with fail
  generalize (w.alloc (.cells #[.int .i64 kind, .string text, .int .i64 n, .bool wh, .int .i64 c] 25)).alloc (.cells #[.int .i64 0, .int .i64 0] 27) = W at *
  obtain ⟨⟨t0, t1, t2, t3, t4⟩, _⟩ := blk5 kT
  have fin : ∀ (w1 : World), Below W.heap.size W w1 → Blk w1 (w.heap.size + 1) 27 [.int .i64 0, .int .i64 0] ∧ ∀ a b, Below w.heap.size w (set2 w1 (w.heap.size + 1) a b) := fun w1 b1 =>
    ⟨kV.below b1 kV.lt, fun a b => below_grown (b0.trans (b1.mono b0.size)) (grown_set2 w1 (w.heap.size + 1) a b) (by have := b1.size; omega) (by omega)⟩
  have FIN : Hid (∀ (w1 : World), Below W.heap.size W w1 → Blk w1 (w.heap.size + 1) 27 [.int .i64 0, .int .i64 0] ∧ ∀ a b, Below w.heap.size w (set2 w1 (w.heap.size + 1) a b)) := fin
  clear fin
  have hS0 := hS.below b0 hg
  by_cases h1 : kind = 1
  · subst h1
    rw [if_pos rfl] at hV
    clear t2 t3 t4
    go_wp2_with fail
    refine (hlow _).mono ?_
    clear hlow
    rintro e w1 ⟨rfl, b1⟩
    have hs1 := b1.size
    have hw := refWord_any ⟨low.toArray⟩ g cap ss w1 (hS0.below b1 (by omega)) hl
    rw [show (⟨low.toArray⟩ : ByteArray).data.toList = low from rfl] at hw
    obtain ⟨kx, HF⟩ := (show ∀ (w1 : World), Below W.heap.size W w1 → Blk w1 (w.heap.size + 1) 27 [.int .i64 0, .int .i64 0] ∧ ∀ a b, Below w.heap.size w (set2 w1 (w.heap.size + 1) a b) from FIN) _ b1
    obtain ⟨⟨c0, c1⟩, f0, f1⟩ := blk2 kx
    have HFH : Hid (∀ a b, Below w.heap.size w (set2 w1 (w.heap.size + 1) a b)) := HF
    clear HF FIN hS0 hS
    unfold idxV at hw
    cases hi : idx ss low with
    | none =>
      rw [hi] at hw hV
      obtain rfl : no = V := hV
      go_wp2_with fail
      refine hw.mono ?_
      clear hw
      rintro e w2 ⟨rfl, rfl⟩
      go_wp2
      refine bodyPost_ret (results_struct_tmp rfl _ _ (w.heap.size + 1) _ rfl (load_val (blk_set2 kx _ _))) rfl ?_
      exact ⟨rfl, HFH _ _⟩
    | some m =>
      rw [hi] at hw hV
      obtain rfl : (1, (m : Int), true) = V := hV
      go_wp2_with fail
      refine hw.mono ?_
      clear hw
      rintro e w2 ⟨rfl, rfl⟩
      go_wp2
      refine bodyPost_ret (results_struct_tmp rfl _ _ (w.heap.size + 1) _ rfl (load_val (blk_set2 kx _ _))) rfl ?_
      exact ⟨rfl, HFH _ _⟩
  · have e1 : (kind != 1) = true := by simpa using h1
    obtain rfl : no = V := by rw [← hV, if_neg h1]
    obtain ⟨kx, HF⟩ := (show ∀ (w1 : World), Below W.heap.size W w1 → Blk w1 (w.heap.size + 1) 27 [.int .i64 0, .int .i64 0] ∧ ∀ a b, Below w.heap.size w (set2 w1 (w.heap.size + 1) a b) from FIN) _ (Below.refl _ _)
    obtain ⟨⟨c0, c1⟩, f0, f1⟩ := blk2 kx
    have HFH : Hid (∀ a b, Below w.heap.size w (set2 W (w.heap.size + 1) a b)) := HF
    clear HF FIN hS0 hS hV h1 hlow
    go_wp2
    refine bodyPost_ret (results_struct_tmp rfl _ _ (w.heap.size + 1) _ rfl (load_val (blk_set2 kx _ _))) rfl ?_
    exact ⟨rfl, HFH _ _⟩

end Go.Proofs.YtghjpefkeobfnaaDoor.Vl
