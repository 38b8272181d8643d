/- The document's own length of a token, at every token. -/
import Derived.Test.YtghjpefkeobfnaaDoorVlRefB
namespace Go.Proofs.YtghjpefkeobfnaaDoor.Vl
open Go Go.RowKit

set_option maxRecDepth 100000 in
set_option maxHeartbeats 2000000 in
theorem refLength_any (t : Bt) (w : World) (ht : t.text.size ≤ maxLen) :
    Calls Tryd.prog 29 #[.agg #[.int .i64 t.kind, .string t.text, .int .i64 t.n, .bool t.whole, .int .i64 t.c]] w fun e w' => e = ret (lenV t.kind (lowOf t) t.n) ∧ Below w.heap.size w w' := by
  obtain ⟨V, hV⟩ : ∃ V, lenV t.kind (lowOf t) t.n = V := ⟨_, rfl⟩
  rw [hV]
  obtain ⟨kind, text, n, wh, c⟩ := t
  simp only [lowOf] at hV ht ⊢
  have hlow := fun X => Lw.refLower_any text X ht
  generalize Lw.low text.data.toList = low at *
  unfold lenV at hV
  have b0 : Below w.heap.size w ((w.alloc (.cells #[.int .i64 kind, .string text, .int .i64 n, .bool wh, .int .i64 c] 25)).alloc (.cells #[.int .i64 0, .int .i64 0] 27)) := ((Below.refl _ w).alloc (Nat.le_refl _) _).alloc (by rw [World.size_alloc]; omega) _
  have kT : Blk ((w.alloc (.cells #[.int .i64 kind, .string text, .int .i64 n, .bool wh, .int .i64 c] 25)).alloc (.cells #[.int .i64 0, .int .i64 0] 27)) w.heap.size 25 [.int .i64 kind, .string text, .int .i64 n, .bool wh, .int .i64 c] := (Blk.new w 25 [.int .i64 kind, .string text, .int .i64 n, .bool wh, .int .i64 c]).kept (World.grownBy_alloc _ _ none) (by simp)
  have kV : Blk ((w.alloc (.cells #[.int .i64 kind, .string text, .int .i64 n, .bool wh, .int .i64 c] 25)).alloc (.cells #[.int .i64 0, .int .i64 0] 27)) (w.heap.size + 1) 27 [.int .i64 0, .int .i64 0] := by
    have := Blk.new (w.alloc (.cells #[.int .i64 kind, .string text, .int .i64 n, .bool wh, .int .i64 c] 25)) 27 [.int .i64 0, .int .i64 0]
    rwa [World.size_alloc] at this
  have hSz : ((w.alloc (.cells #[.int .i64 kind, .string text, .int .i64 n, .bool wh, .int .i64 c] 25)).alloc (.cells #[.int .i64 0, .int .i64 0] 27)).heap.size = w.heap.size + 2 := by rw [World.size_alloc, World.size_alloc]
  go_enter Tryd.func29, Tryd.ntmps29
  go_upto_region 1 with fail
  generalize (w.alloc (.cells #[.int .i64 kind, .string text, .int .i64 n, .bool wh, .int .i64 c] 25)).alloc (.cells #[.int .i64 0, .int .i64 0] 27) = W at *
  obtain ⟨⟨t0, t1, t2, t3, t4⟩, _⟩ := blk5 kT
  have fin : ∀ (w1 : World), Below W.heap.size W w1 → Blk w1 (w.heap.size + 1) 27 [.int .i64 0, .int .i64 0] ∧ ∀ a b, Below w.heap.size w (set2 w1 (w.heap.size + 1) a b) := fun w1 b1 =>
    ⟨kV.below b1 kV.lt, fun a b => below_grown (b0.trans (b1.mono b0.size)) (grown_set2 w1 (w.heap.size + 1) a b) (by have := b1.size; omega) (by omega)⟩
  have FIN : Hid (∀ (w1 : World), Below W.heap.size W w1 → Blk w1 (w.heap.size + 1) 27 [.int .i64 0, .int .i64 0] ∧ ∀ a b, Below w.heap.size w (set2 w1 (w.heap.size + 1) a b)) := fin
  clear fin
  clear t3 t4
  by_cases h7 : kind = 7
  · subst h7
    obtain rfl : (4, n, true) = V := by rw [← hV, if_pos rfl]
    obtain ⟨kx, HF⟩ := (show ∀ (w1 : World), Below W.heap.size W w1 → Blk w1 (w.heap.size + 1) 27 [.int .i64 0, .int .i64 0] ∧ ∀ a b, Below w.heap.size w (set2 w1 (w.heap.size + 1) a b) from FIN) _ (Below.refl _ _)
    obtain ⟨⟨c0, c1⟩, f0, f1⟩ := blk2 kx
    have HFH : Hid (∀ a b, Below w.heap.size w (set2 W (w.heap.size + 1) a b)) := HF
    clear HF FIN
    clear hV hlow
    go_wp2
    refine bodyPost_ret (results_struct_tmp rfl _ _ (w.heap.size + 1) _ rfl (load_val (blk_set2 kx _ _))) rfl ?_
    exact ⟨rfl, HFH _ _⟩
  have e7 : (kind == 7) = false := by simpa using h7
  rw [if_neg h7] at hV
  by_cases h8 : kind = 8
  · subst h8
    clear h7 e7
    by_cases hx : low = pxT
    · subst hx
      obtain rfl : (2, n, true) = V := by rw [← hV, if_pos ⟨rfl, rfl⟩]
      unfold pxT at hlow
      clear hV
      go_wp2_with fail
      refine (hlow _).mono ?_
      clear hlow
      rintro e w1 ⟨rfl, b1⟩
      replace t2 := (b1.cell (p := ⟨w.heap.size, 2, none⟩) kT.lt).trans t2
      obtain ⟨kx, HF⟩ := (show ∀ (w1 : World), Below W.heap.size W w1 → Blk w1 (w.heap.size + 1) 27 [.int .i64 0, .int .i64 0] ∧ ∀ a b, Below w.heap.size w (set2 w1 (w.heap.size + 1) a b) from FIN) _ (b1)
      obtain ⟨⟨c0, c1⟩, f0, f1⟩ := blk2 kx
      have HFH : Hid (∀ a b, Below w.heap.size w (set2 w1 (w.heap.size + 1) a b)) := HF
      clear HF FIN
      clear t0 t1
      go_wp2
      refine bodyPost_ret (results_struct_tmp rfl _ _ (w.heap.size + 1) _ rfl (load_val (blk_set2 kx _ _))) rfl ?_
      exact ⟨rfl, HFH _ _⟩
    have ex := px_ne hx
    by_cases hm : low = emT
    · subst hm
      obtain rfl : (3, n, true) = V := by rw [← hV, if_neg (by simp [pxT, emT]), if_pos ⟨rfl, rfl⟩]
      unfold emT at hlow ex
      clear hV hx
      go_wp2_with fail
      refine (hlow _).mono ?_
      rintro e w1 ⟨rfl, b1⟩
      replace t0 := (b1.cell (p := ⟨w.heap.size, 0, none⟩) kT.lt).trans t0
      replace t1 := (b1.cell (p := ⟨w.heap.size, 1, none⟩) kT.lt).trans t1
      replace t2 := (b1.cell (p := ⟨w.heap.size, 2, none⟩) kT.lt).trans t2
      go_wp2_with fail
      refine (hlow _).mono ?_
      clear hlow
      rintro e w2 ⟨rfl, b2⟩
      replace t2 := (b2.cell (p := ⟨w.heap.size, 2, none⟩) (by have := kT.lt; have := b1.size; show w.heap.size < _; omega)).trans t2
      obtain ⟨kx, HF⟩ := (show ∀ (w1 : World), Below W.heap.size W w1 → Blk w1 (w.heap.size + 1) 27 [.int .i64 0, .int .i64 0] ∧ ∀ a b, Below w.heap.size w (set2 w1 (w.heap.size + 1) a b) from FIN) _ (b1.trans (b2.mono b1.size))
      obtain ⟨⟨c0, c1⟩, f0, f1⟩ := blk2 kx
      have HFH : Hid (∀ a b, Below w.heap.size w (set2 w2 (w.heap.size + 1) a b)) := HF
      clear HF FIN
      clear t0 t1
      go_wp2
      refine bodyPost_ret (results_struct_tmp rfl _ _ (w.heap.size + 1) _ rfl (load_val (blk_set2 kx _ _))) rfl ?_
      exact ⟨rfl, HFH _ _⟩
    have em := em_ne hm
    obtain rfl : no = V := by rw [← hV, if_neg (by simp [hx]), if_neg (by simp [hm])]
    clear hV hx hm
    generalize (⟨low.toArray⟩ : ByteArray) = z at *
    go_wp2_with fail
    refine (hlow _).mono ?_
    rintro e w1 ⟨rfl, b1⟩
    replace t0 := (b1.cell (p := ⟨w.heap.size, 0, none⟩) kT.lt).trans t0
    replace t1 := (b1.cell (p := ⟨w.heap.size, 1, none⟩) kT.lt).trans t1
    go_wp2_with fail
    refine (hlow _).mono ?_
    clear hlow
    rintro e w2 ⟨rfl, b2⟩
    obtain ⟨kx, HF⟩ := (show ∀ (w1 : World), Below W.heap.size W w1 → Blk w1 (w.heap.size + 1) 27 [.int .i64 0, .int .i64 0] ∧ ∀ a b, Below w.heap.size w (set2 w1 (w.heap.size + 1) a b) from FIN) _ (b1.trans (b2.mono b1.size))
    obtain ⟨⟨c0, c1⟩, f0, f1⟩ := blk2 kx
    have HFH : Hid (∀ a b, Below w.heap.size w (set2 w2 (w.heap.size + 1) a b)) := HF
    clear HF FIN
    clear t0 t1 t2
    go_wp2
    refine bodyPost_ret (results_struct_tmp rfl _ _ (w.heap.size + 1) _ rfl (load_val (blk_set2 kx _ _))) rfl ?_
    exact ⟨rfl, HFH _ _⟩
  have e8 : (kind == 8) = false := by simpa using h8
  obtain rfl : no = V := by rw [← hV, if_neg (by simp [h8]), if_neg (by simp [h8])]
  obtain ⟨kx, HF⟩ := (show ∀ (w1 : World), Below W.heap.size W w1 → Blk w1 (w.heap.size + 1) 27 [.int .i64 0, .int .i64 0] ∧ ∀ a b, Below w.heap.size w (set2 w1 (w.heap.size + 1) a b) from FIN) _ (Below.refl _ _)
  obtain ⟨⟨c0, c1⟩, f0, f1⟩ := blk2 kx
  have HFH : Hid (∀ a b, Below w.heap.size w (set2 W (w.heap.size + 1) a b)) := HF
  clear HF FIN
  clear hV hlow h7 h8
  go_wp2
  refine bodyPost_ret (results_struct_tmp rfl _ _ (w.heap.size + 1) _ rfl (load_val (blk_set2 kx _ _))) rfl ?_
  exact ⟨rfl, HFH _ _⟩

end Go.Proofs.YtghjpefkeobfnaaDoor.Vl
