/- package value: read and Parse, at every property and every slice of tokens. -/
import Derived.Test.YtghjpefkeobfnabDoorVlCol
import Derived.Test.YtghjpefkeobfnabDoorDcLow
namespace Go.Proofs.YtghjpefkeobfnabDoor.Vl
open Go Go.RowKit

def tkAgg (t : Bt) : Value := .agg #[.int .i64 t.kind, .string t.text, .int .i64 t.n, .bool t.whole, .int .i64 t.c]
/-- A token's text in small letters. -/
def lowOf (t : Bt) : List UInt8 := Lw.low t.text.data.toList
def tokV (p : Int) (t : Bt) : Vv := readV p t.kind t.text.data.toList (lowOf t) t.n t.whole
def parseV (p : Int) : List Bt → Vv
  | [t] => if 0 ≤ p ∧ p ≤ 7 then tokV p t else no
  | _ => no
theorem px_ne {z : List UInt8} (h : ¬ z = pxT) : ((⟨z.toArray⟩ : ByteArray).toList == [112, 120]) = false := by
  rw [ByteArray.toList_eq, beq_eq_false_iff_ne]
  intro e
  exact h (by simpa [pxT] using e)
theorem em_ne {z : List UInt8} (h : ¬ z = emT) : ((⟨z.toArray⟩ : ByteArray).toList == [101, 109]) = false := by
  rw [ByteArray.toList_eq, beq_eq_false_iff_ne]
  intro e
  exact h (by simpa [emT] using e)

set_option maxRecDepth 100000 in
set_option maxHeartbeats 4000000 in
theorem read_any (p : Int) (t : Bt) (w : World) (hS : WordsAt w.heap.size w) (ht : t.text.size ≤ maxLen) :
    Calls Tryd.prog 11 #[.int .i64 p, .agg #[.int .i64 t.kind, .string t.text, .int .i64 t.n, .bool t.whole, .int .i64 t.c]] w fun e w' => e = ret (tokV p t) ∧ Below w.heap.size w w' := by
  obtain ⟨V, hV⟩ : ∃ V, tokV p t = V := ⟨_, rfl⟩
  rw [hV]
  unfold tokV at hV
  obtain ⟨kind, text, n, wh, c⟩ := t
  simp only [lowOf] at hV ht ⊢
  have hlow := fun X => Lw.lower_any text X ht
  generalize Lw.low text.data.toList = low at *
  have hword := fun X hX => word_any p ⟨low.toArray⟩ X hX
  have hcol := fun X => color_any p text X
  have hlen := fun k X => length_any p k n X
  have hnum := fun X => number_any p n wh X
  have b0 : Below w.heap.size w ((w.alloc (.cells #[.int .i64 kind, .string text, .int .i64 n, .bool wh, .int .i64 c] 30)).alloc (.cells #[.int .i64 0, .int .i64 0] 26)) := ((Below.refl _ w).alloc (Nat.le_refl _) _).alloc (by rw [World.size_alloc]; omega) _
  have kT : Blk ((w.alloc (.cells #[.int .i64 kind, .string text, .int .i64 n, .bool wh, .int .i64 c] 30)).alloc (.cells #[.int .i64 0, .int .i64 0] 26)) w.heap.size 30 [.int .i64 kind, .string text, .int .i64 n, .bool wh, .int .i64 c] := (Blk.new w 30 [.int .i64 kind, .string text, .int .i64 n, .bool wh, .int .i64 c]).kept (World.grownBy_alloc _ _ none) (by simp)
  have kV : Blk ((w.alloc (.cells #[.int .i64 kind, .string text, .int .i64 n, .bool wh, .int .i64 c] 30)).alloc (.cells #[.int .i64 0, .int .i64 0] 26)) (w.heap.size + 1) 26 [.int .i64 0, .int .i64 0] := by
    have := Blk.new (w.alloc (.cells #[.int .i64 kind, .string text, .int .i64 n, .bool wh, .int .i64 c] 30)) 26 [.int .i64 0, .int .i64 0]
    rwa [World.size_alloc] at this
  have hSz : ((w.alloc (.cells #[.int .i64 kind, .string text, .int .i64 n, .bool wh, .int .i64 c] 30)).alloc (.cells #[.int .i64 0, .int .i64 0] 26)).heap.size = w.heap.size + 2 := by rw [World.size_alloc, World.size_alloc]
  replace hS := (hS.below b0).mono b0.size
  go_enter Tryd.func11, Tryd.ntmps11
  go_upto_region 1 with fail
  generalize (w.alloc (.cells #[.int .i64 kind, .string text, .int .i64 n, .bool wh, .int .i64 c] 30)).alloc (.cells #[.int .i64 0, .int .i64 0] 26) = W at *
  obtain ⟨⟨t0, t1, t2, t3, t4⟩, _⟩ := blk5 kT
  have fin : ∀ (w1 : World), Below W.heap.size W w1 → Blk w1 (w.heap.size + 1) 26 [.int .i64 0, .int .i64 0] ∧ ∀ a b, Below w.heap.size w (set2 w1 (w.heap.size + 1) a b) := fun w1 b1 =>
    ⟨kV.below b1 kV.lt, fun a b => below_grown (b0.trans (b1.mono b0.size)) (grown_set2 w1 (w.heap.size + 1) a b) (by have := b1.size; omega) (by omega)⟩
  have FIN : Hid (∀ (w1 : World), Below W.heap.size W w1 → Blk w1 (w.heap.size + 1) 26 [.int .i64 0, .int .i64 0] ∧ ∀ a b, Below w.heap.size w (set2 w1 (w.heap.size + 1) a b)) := fin
  clear fin
  by_cases h1 : kind = 1
  · subst h1
    have hE : wordV p low = V := by rw [← hV]; rfl
    clear hV hcol hlen hnum
    go_wp2_with fail
    refine (hlow _).mono ?_
    clear hlow
    rintro e w1 ⟨rfl, b1⟩
    have hS1 := hS.next b1
    have hw := hword _ hS1
    clear hword
    replace hw : Calls Tryd.prog 13 #[.int .i64 p, .string ⟨low.toArray⟩] w1 fun e w' => e = ret V ∧ Below w1.heap.size w1 w' := by rw [← hE]; exact hw
    clear hE
    go_wp2_with fail
    refine hw.mono ?_
    clear hw
    rintro e w2 ⟨rfl, b2⟩
    obtain ⟨kx, HF⟩ := (show ∀ (w1 : World), Below W.heap.size W w1 → Blk w1 (w.heap.size + 1) 26 [.int .i64 0, .int .i64 0] ∧ ∀ a b, Below w.heap.size w (set2 w1 (w.heap.size + 1) a b) from FIN) _ (b1.trans (b2.mono b1.size))
    obtain ⟨⟨c0, c1⟩, f0, f1⟩ := blk2 kx
    have HFH : Hid (∀ a b, Below w.heap.size w (set2 w2 (w.heap.size + 1) a b)) := HF
    clear HF FIN
    obtain ⟨v1, v2, v3⟩ := V
    unfold ret
    go_wp2
    refine bodyPost_ret (results_struct_tmp rfl _ _ (w.heap.size + 1) _ rfl (load_val (blk_set2 kx _ _))) rfl ?_
    exact ⟨rfl, HFH _ _⟩
  have e1 : (kind == 1) = false := by simpa using h1
  clear hword
  by_cases h3 : kind = 3
  · subst h3
    have hE : colorV p text.data.toList = V := by rw [← hV]; rfl
    clear hV hlen hnum hlow h1
    simp only [hE] at hcol
    clear hE
    go_wp2_with fail
    refine (hcol _).mono ?_
    clear hcol
    rintro e w1 ⟨rfl, b1⟩
    obtain ⟨kx, HF⟩ := (show ∀ (w1 : World), Below W.heap.size W w1 → Blk w1 (w.heap.size + 1) 26 [.int .i64 0, .int .i64 0] ∧ ∀ a b, Below w.heap.size w (set2 w1 (w.heap.size + 1) a b) from FIN) _ (b1)
    obtain ⟨⟨c0, c1⟩, f0, f1⟩ := blk2 kx
    have HFH : Hid (∀ a b, Below w.heap.size w (set2 w1 (w.heap.size + 1) a b)) := HF
    clear HF FIN
    obtain ⟨v1, v2, v3⟩ := V
    unfold ret
    go_wp2
    refine bodyPost_ret (results_struct_tmp rfl _ _ (w.heap.size + 1) _ rfl (load_val (blk_set2 kx _ _))) rfl ?_
    exact ⟨rfl, HFH _ _⟩
  have e3 : (kind == 3) = false := by simpa using h3
  clear hcol
  by_cases h8 : kind = 8
  · subst h8
    clear hnum h1 h3 e1 e3
    by_cases hx : low = pxT
    · subst hx
      have hE : lengthV p 2 n = V := by rw [← hV]; rfl
      replace hlen := hlen 2
      clear hV
      unfold pxT at hlow
      simp only [hE] at hlen
      clear hE
      go_wp2_with fail
      refine (hlow _).mono ?_
      clear hlow
      rintro e w1 ⟨rfl, b1⟩
      replace t2 := (b1.cell (p := ⟨w.heap.size, 2, none⟩) kT.lt).trans t2
      clear t0 t1 t3 t4
      go_wp2_with fail
      refine (hlen _).mono ?_
      clear hlen
      rintro e w2 ⟨rfl, b2⟩
      obtain ⟨kx, HF⟩ := (show ∀ (w1 : World), Below W.heap.size W w1 → Blk w1 (w.heap.size + 1) 26 [.int .i64 0, .int .i64 0] ∧ ∀ a b, Below w.heap.size w (set2 w1 (w.heap.size + 1) a b) from FIN) _ (b1.trans (b2.mono b1.size))
      obtain ⟨⟨c0, c1⟩, f0, f1⟩ := blk2 kx
      have HFH : Hid (∀ a b, Below w.heap.size w (set2 w2 (w.heap.size + 1) a b)) := HF
      clear HF FIN
      obtain ⟨v1, v2, v3⟩ := V
      unfold ret
      go_wp2
      refine bodyPost_ret (results_struct_tmp rfl _ _ (w.heap.size + 1) _ rfl (load_val (blk_set2 kx _ _))) rfl ?_
      exact ⟨rfl, HFH _ _⟩
    have ex := px_ne hx
    by_cases hm : low = emT
    · subst hm
      have hE : lengthV p 3 n = V := by rw [← hV]; rfl
      replace hlen := hlen 3
      clear hV ex hx
      unfold emT at hlow
      simp only [hE] at hlen
      clear hE
      go_wp2_with fail
      refine (hlow _).mono ?_
      clear hlow
      rintro e w1 ⟨rfl, b1⟩
      replace t2 := (b1.cell (p := ⟨w.heap.size, 2, none⟩) kT.lt).trans t2
      clear t0 t1 t3 t4
      go_wp2_with fail
      refine (hlen _).mono ?_
      clear hlen
      rintro e w2 ⟨rfl, b2⟩
      obtain ⟨kx, HF⟩ := (show ∀ (w1 : World), Below W.heap.size W w1 → Blk w1 (w.heap.size + 1) 26 [.int .i64 0, .int .i64 0] ∧ ∀ a b, Below w.heap.size w (set2 w1 (w.heap.size + 1) a b) from FIN) _ (b1.trans (b2.mono b1.size))
      obtain ⟨⟨c0, c1⟩, f0, f1⟩ := blk2 kx
      have HFH : Hid (∀ a b, Below w.heap.size w (set2 w2 (w.heap.size + 1) a b)) := HF
      clear HF FIN
      obtain ⟨v1, v2, v3⟩ := V
      unfold ret
      go_wp2
      refine bodyPost_ret (results_struct_tmp rfl _ _ (w.heap.size + 1) _ rfl (load_val (blk_set2 kx _ _))) rfl ?_
      exact ⟨rfl, HFH _ _⟩
    have em := em_ne hm
    obtain rfl : no = V := by rw [← hV]; simp [readV, hx, hm]
    clear hV hx hm hlen
    generalize (⟨low.toArray⟩ : ByteArray) = z at *
    go_wp2_with fail
    refine (hlow _).mono ?_
    clear hlow
    rintro e w1 ⟨rfl, b1⟩
    obtain ⟨kx, HF⟩ := (show ∀ (w1 : World), Below W.heap.size W w1 → Blk w1 (w.heap.size + 1) 26 [.int .i64 0, .int .i64 0] ∧ ∀ a b, Below w.heap.size w (set2 w1 (w.heap.size + 1) a b) from FIN) _ (b1)
    obtain ⟨⟨c0, c1⟩, f0, f1⟩ := blk2 kx
    have HFH : Hid (∀ a b, Below w.heap.size w (set2 w1 (w.heap.size + 1) a b)) := HF
    clear HF FIN
    go_wp2
    refine bodyPost_ret (results_struct_tmp rfl _ _ (w.heap.size + 1) _ rfl (load_val (blk_set2 kx _ _))) rfl ?_
    exact ⟨rfl, HFH _ _⟩
  have e8 : (kind == 8) = false := by simpa using h8
  clear hlow
  by_cases h7 : kind = 7
  · subst h7
    have hE : lengthV p 4 n = V := by rw [← hV]; rfl
    replace hlen := hlen 4
    clear hV hnum h1 h3 h8 e1 e3 e8
    simp only [hE] at hlen
    clear hE
    go_wp2_with fail
    refine (hlen _).mono ?_
    clear hlen
    rintro e w1 ⟨rfl, b1⟩
    obtain ⟨kx, HF⟩ := (show ∀ (w1 : World), Below W.heap.size W w1 → Blk w1 (w.heap.size + 1) 26 [.int .i64 0, .int .i64 0] ∧ ∀ a b, Below w.heap.size w (set2 w1 (w.heap.size + 1) a b) from FIN) _ (b1)
    obtain ⟨⟨c0, c1⟩, f0, f1⟩ := blk2 kx
    have HFH : Hid (∀ a b, Below w.heap.size w (set2 w1 (w.heap.size + 1) a b)) := HF
    clear HF FIN
    obtain ⟨v1, v2, v3⟩ := V
    unfold ret
    go_wp2
    refine bodyPost_ret (results_struct_tmp rfl _ _ (w.heap.size + 1) _ rfl (load_val (blk_set2 kx _ _))) rfl ?_
    exact ⟨rfl, HFH _ _⟩
  have e7 : (kind == 7) = false := by simpa using h7
  clear hlen
  by_cases h6 : kind = 6
  · subst h6
    have hE : numberV p n wh = V := by rw [← hV]; rfl
    clear hV h1 h3 h8 h7 e1 e3 e8 e7
    simp only [hE] at hnum
    clear hE
    go_wp2_with fail
    refine (hnum _).mono ?_
    clear hnum
    rintro e w1 ⟨rfl, b1⟩
    obtain ⟨kx, HF⟩ := (show ∀ (w1 : World), Below W.heap.size W w1 → Blk w1 (w.heap.size + 1) 26 [.int .i64 0, .int .i64 0] ∧ ∀ a b, Below w.heap.size w (set2 w1 (w.heap.size + 1) a b) from FIN) _ (b1)
    obtain ⟨⟨c0, c1⟩, f0, f1⟩ := blk2 kx
    have HFH : Hid (∀ a b, Below w.heap.size w (set2 w1 (w.heap.size + 1) a b)) := HF
    clear HF FIN
    obtain ⟨v1, v2, v3⟩ := V
    unfold ret
    go_wp2
    refine bodyPost_ret (results_struct_tmp rfl _ _ (w.heap.size + 1) _ rfl (load_val (blk_set2 kx _ _))) rfl ?_
    exact ⟨rfl, HFH _ _⟩
  have e6 : (kind == 6) = false := by simpa using h6
  obtain rfl : no = V := by rw [← hV]; simp [readV, h1, h3, h6, h7, h8]
  clear hV hnum h1 h3 h6 h7 h8
  obtain ⟨kx, HF⟩ := (show ∀ (w1 : World), Below W.heap.size W w1 → Blk w1 (w.heap.size + 1) 26 [.int .i64 0, .int .i64 0] ∧ ∀ a b, Below w.heap.size w (set2 w1 (w.heap.size + 1) a b) from FIN) _ (Below.refl _ _)
  obtain ⟨⟨c0, c1⟩, f0, f1⟩ := blk2 kx
  have HFH : Hid (∀ a b, Below w.heap.size w (set2 W (w.heap.size + 1) a b)) := HF
  clear HF FIN
  go_wp2
  refine bodyPost_ret (results_struct_tmp rfl _ _ (w.heap.size + 1) _ rfl (load_val (blk_set2 kx _ _))) rfl ?_
  exact ⟨rfl, HFH _ _⟩

set_option maxRecDepth 100000 in
set_option maxHeartbeats 2000000 in
/-- PACKAGE value's Parse AT EVERY PROPERTY AND EVERY SLICE OF TOKENS. -/
theorem parse_any (p : Int) (v : Value) (ts : List Bt) (w : World) (hS : WordsAt w.heap.size w) (hv : BtsAt w.heap.size w v ts) (ht : ∀ t ∈ ts, t.text.size ≤ maxLen) :
    Calls Tryd.prog 7 #[.int .i64 p, v] w fun e w' => e = ret (parseV p ts) ∧ Below w.heap.size w w' := by
  have hl := hv.short
  have b0 := zero_new w
  have k0 := Blk.new w 26 [.int .i64 0, .int .i64 0]
  have hip := isProp_any p
  obtain ⟨q, cap, rfl⟩ := hv.len
  obtain ⟨V, hV⟩ : ∃ V, parseV p ts = V := ⟨_, rfl⟩
  rw [hV]
  replace hS := (hS.below b0).mono b0.size
  replace hv := hv.below b0
  go_enter Tryd.func7, Tryd.ntmps7
  go_upto_region 1 with fail
  replace k0 : Blk (w.alloc (.cells #[.int .i64 0, .int .i64 0] 26)) w.heap.size _ _ := k0
  generalize w.alloc (.cells #[.int .i64 0, .int .i64 0] 26) = W at *
  obtain ⟨⟨c0, c1⟩, f0, f1⟩ := blk2 k0
  have hB := k0.lt
  have HF : Hid (∀ a b, Below w.heap.size w (set2 W w.heap.size a b)) := fun a b => below_grown b0 (grown_set2 W w.heap.size a b) (by omega) (Nat.le_refl _)
  by_cases hp : 0 ≤ p ∧ p ≤ 7
  · rw [decide_eq_true hp] at hip
    by_cases h1 : ts.length = 1
    · obtain ⟨t, rfl⟩ := List.length_eq_one_iff.1 h1
      have hE : tokV p t = V := by rw [← hV, parseV, if_pos hp]
      obtain ⟨bk, off, rfl, hbk, hc1, hc2, x0, x1, x2, x3, x4⟩ := hv.get (k := 0) (t := t) rfl
      have hr := read_any p t W hS (ht t (List.mem_singleton_self t))
      rw [hE] at hr
      clear hE
      clear hV hv ht hS h1 HF hp
      simp only [Nat.zero_mul, Nat.add_zero, List.length_singleton] at *
      go_wp2_with fail
      refine (hip _).mono ?_
      clear hip
      rintro e w1 ⟨rfl, rfl⟩
      go_wp2_with fail
      refine hr.mono ?_
      clear hr
      rintro e w2 ⟨rfl, b2⟩
      have kx := k0.below b2 hB
      clear c0 c1 f0 f1 x0 x1 x2 x3 x4
      obtain ⟨⟨c0, c1⟩, f0, f1⟩ := blk2 kx
      have HF : Hid (∀ a b, Below w.heap.size w (set2 w2 w.heap.size a b)) := fun a b => below_grown (b0.trans (b2.mono b0.size)) (grown_set2 w2 w.heap.size a b) (by have := b2.size; omega) (Nat.le_refl _)
      obtain ⟨v1, v2, v3⟩ := V
      unfold ret
      go_wp2
      refine bodyPost_ret (results_struct_tmp rfl _ _ w.heap.size _ rfl (load_val (blk_set2 kx _ _))) rfl ?_
      exact ⟨rfl, HF _ _⟩
    · have hn1 : ((ts.length : Int) != 1) = true := by simp; omega
      obtain rfl : no = V := by
        rw [← hV]
        match ts, h1 with
        | [], _ => rfl
        | [_], h => exact absurd rfl h
        | _ :: _ :: _, _ => rfl
      clear hV h1 ht hv hS
      go_wp2_with fail
      refine (hip _).mono ?_
      clear hip
      rintro e w1 ⟨rfl, rfl⟩
      go_wp2
      refine bodyPost_ret (results_struct_tmp rfl _ _ w.heap.size _ rfl (load_val (blk_set2 k0 _ _))) rfl ?_
      exact ⟨rfl, HF _ _⟩
  · rw [decide_eq_false hp] at hip
    obtain rfl : no = V := by
      rw [← hV]
      match ts with
      | [] => rfl
      | [_] => rw [parseV, if_neg hp]
      | _ :: _ :: _ => rfl
    clear hV ht hv hS hp
    go_wp2_with fail
    refine (hip _).mono ?_
    clear hip
    rintro e w1 ⟨rfl, rfl⟩
    go_wp2
    refine bodyPost_ret (results_struct_tmp rfl _ _ w.heap.size _ rfl (load_val (blk_set2 k0 _ _))) rfl ?_
    exact ⟨rfl, HF _ _⟩

end Go.Proofs.YtghjpefkeobfnabDoor.Vl
