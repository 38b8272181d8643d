/- The document's own Value, property by property: 2, 3, 6. -/
import Derived.Test.YtghjpefkeobfnaaDoorVlRefC
namespace Go.Proofs.YtghjpefkeobfnaaDoor.Vl
open Go Go.RowKit

set_option maxRecDepth 100000 in
set_option maxHeartbeats 4000000 in
theorem refValue_2 (t : Bt) (bk off cap : Nat) (w : World) (hbk : bk < w.heap.size) (hat : BtAt w bk off t) (ht : t.text.size ≤ maxLen) :
    Calls Tryd.prog 11 #[.int .i64 2, .slice (some ⟨bk, off, none⟩) 1 cap] w fun e w' => e = ret (refV 2 t.kind t.text.data.toList (lowOf t) t.n t.whole) ∧ Below w.heap.size w w' := by
  obtain ⟨V, hV⟩ : ∃ V, refV 2 t.kind t.text.data.toList (lowOf t) t.n t.whole = V := ⟨_, rfl⟩
  rw [hV]
  obtain ⟨kind, text, n, wh, c⟩ := t
  obtain ⟨x0, x1, x2, x3, x4⟩ := hat
  simp only [lowOf] at hV ht ⊢ x0 x1 x2 x3 x4
  have hlow := fun X => Lw.refLower_any text X ht
  obtain ⟨low, hlw⟩ : ∃ low, Lw.low text.data.toList = low := ⟨_, rfl⟩
  rw [hlw] at hV
  simp only [hlw] at hlow
  unfold refV at hV
  have bz := zero_new w
  replace x0 := (bz.cell (p := ⟨bk, off, none⟩) hbk).trans x0
  replace x1 := (bz.cell (p := ⟨bk, off + 1, none⟩) hbk).trans x1
  replace x2 := (bz.cell (p := ⟨bk, off + 2, none⟩) hbk).trans x2
  replace x3 := (bz.cell (p := ⟨bk, off + 3, none⟩) hbk).trans x3
  replace x4 := (bz.cell (p := ⟨bk, off + 4, none⟩) hbk).trans x4
  have b0 : Below w.heap.size w ((w.alloc (.cells #[.int .i64 0, .int .i64 0] 27)).alloc (.cells #[.int .i64 kind, .string text, .int .i64 n, .bool wh, .int .i64 c] 25)) := ((Below.refl _ w).alloc (Nat.le_refl _) _).alloc (by rw [World.size_alloc]; omega) _
  have kV : Blk ((w.alloc (.cells #[.int .i64 0, .int .i64 0] 27)).alloc (.cells #[.int .i64 kind, .string text, .int .i64 n, .bool wh, .int .i64 c] 25)) w.heap.size 27 [.int .i64 0, .int .i64 0] := (Blk.new w 27 [.int .i64 0, .int .i64 0]).kept (World.grownBy_alloc _ _ none) (by simp)
  have kT : Blk ((w.alloc (.cells #[.int .i64 0, .int .i64 0] 27)).alloc (.cells #[.int .i64 kind, .string text, .int .i64 n, .bool wh, .int .i64 c] 25)) (w.heap.size + 1) 25 [.int .i64 kind, .string text, .int .i64 n, .bool wh, .int .i64 c] := by
    have := Blk.new (w.alloc (.cells #[.int .i64 0, .int .i64 0] 27)) 25 [.int .i64 kind, .string text, .int .i64 n, .bool wh, .int .i64 c]
    rwa [World.size_alloc] at this
  have hSz : ((w.alloc (.cells #[.int .i64 0, .int .i64 0] 27)).alloc (.cells #[.int .i64 kind, .string text, .int .i64 n, .bool wh, .int .i64 c] 25)).heap.size = w.heap.size + 2 := by rw [World.size_alloc, World.size_alloc]
  go_enter Tryd.func11, Tryd.ntmps11
  go_upto_region 4 with fail
  generalize ((w.alloc (.cells #[.int .i64 0, .int .i64 0] 27)).alloc (.cells #[.int .i64 kind, .string text, .int .i64 n, .bool wh, .int .i64 c] 25)) = W at *
  clear x0 x1 x2 x3 x4 bz
  obtain ⟨⟨t0, t1, t2, t3, t4⟩, _⟩ := blk5 kT
  have FIN : Hid (∀ (w1 : World), Below W.heap.size W w1 → Blk w1 w.heap.size 27 [.int .i64 0, .int .i64 0] ∧ ∀ a b, Below w.heap.size w (set2 w1 w.heap.size a b)) := fun w1 b1 =>
    ⟨kV.below b1 kV.lt, fun a b => below_grown (b0.trans (b1.mono b0.size)) (grown_set2 w1 w.heap.size a b) (by have := b1.size; omega) (by omega)⟩
  clear hSz
  by_cases h1 : kind = 1
  · subst h1
    rw [if_pos rfl] at hV
    go_wp2_with fail
    refine (hlow _).mono ?_
    clear hlow
    rintro e w1 ⟨rfl, b1⟩
    have bA : Below w1.heap.size w1 (w1.alloc (.cells #[.string ⟨#[105, 110, 104, 101, 114, 105, 116]⟩, .string ⟨#[105, 110, 105, 116, 105, 97, 108]⟩, .string ⟨#[117, 110, 115, 101, 116]⟩] 9)) := (Below.refl _ _).alloc (Nat.le_refl _) _
    have hk : Calls Tryd.prog 26 #[.string ⟨low.toArray⟩, .slice (some ⟨w1.heap.size, 0, none⟩) 3 3] (w1.alloc (.cells #[.string ⟨#[105, 110, 104, 101, 114, 105, 116]⟩, .string ⟨#[105, 110, 105, 116, 105, 97, 108]⟩, .string ⟨#[117, 110, 115, 101, 116]⟩] 9)) fun e w' => e = .returned (.tuple #[.int .i64 (idxV wideT low).1, .bool (idxV wideT low).2]) ∧ w' = (w1.alloc (.cells #[.string ⟨#[105, 110, 104, 101, 114, 105, 116]⟩, .string ⟨#[105, 110, 105, 116, 105, 97, 108]⟩, .string ⟨#[117, 110, 115, 101, 116]⟩] 9)) :=
      refWord_any ⟨low.toArray⟩ w1.heap.size 3 wideT _ (StrsIn.new w1 wideT 9) (by decide)
    unfold idxV at hk
    have b2 : Below W.heap.size W (w1.alloc (.cells #[.string ⟨#[105, 110, 104, 101, 114, 105, 116]⟩, .string ⟨#[105, 110, 105, 116, 105, 97, 108]⟩, .string ⟨#[117, 110, 115, 101, 116]⟩] 9)) := b1.trans (bA.mono b1.size)
    clear bA
    cases hi : idx wideT low with
    | some m =>
      have hm := idx_lt hi
      rw [hi] at hk hV
      have hw7 : IntKind.i64.wrap (7 + (m : Int)) = 7 + (m : Int) := by simp [wideT] at hm; rw [IntKind.wrap_i64]; omega
      obtain rfl : (7 + (m : Int), 0, true) = V := hV
      go_wp2_with fail
      refine hk.mono ?_
      clear hk
      rintro e w2 ⟨rfl, rfl⟩
      clear t0 t1 t2 t3 t4
      generalize (w1.alloc (.cells #[.string ⟨#[105, 110, 104, 101, 114, 105, 116]⟩, .string ⟨#[105, 110, 105, 116, 105, 97, 108]⟩, .string ⟨#[117, 110, 115, 101, 116]⟩] 9)) = w2 at *
      obtain ⟨kx, HF⟩ := (show ∀ (w1 : World), Below W.heap.size W w1 → Blk w1 w.heap.size 27 [.int .i64 0, .int .i64 0] ∧ ∀ a b, Below w.heap.size w (set2 w1 w.heap.size a b) from FIN) _ (b2)
      obtain ⟨⟨c0, c1⟩, f0, f1⟩ := blk2 kx
      have HFH : Hid (∀ a b, Below w.heap.size w (set2 w2 w.heap.size a b)) := HF
      clear HF FIN

      go_wp2
      refine bodyPost_ret (results_struct_tmp rfl _ _ w.heap.size _ rfl (load_val (blk_set2 kx _ _))) rfl ?_
      exact ⟨rfl, HFH _ _⟩

    | none =>
      rw [hi] at hk hV
      go_wp2_with fail
      refine hk.mono ?_
      clear hk
      rintro e w2 ⟨rfl, rfl⟩
      generalize (w1.alloc (.cells #[.string ⟨#[105, 110, 104, 101, 114, 105, 116]⟩, .string ⟨#[105, 110, 105, 116, 105, 97, 108]⟩, .string ⟨#[117, 110, 115, 101, 116]⟩] 9)) = w2 at *
      clear hi b1
      have kT2 := kT.below b2 kT.lt
      clear t0 t1 t2 t3 t4
      obtain ⟨⟨t0, t1, t2, t3, t4⟩, _⟩ := blk5 kT2
      replace hV : restV 2 1 text.data.toList low n wh = V := hV
      have bA : Below w2.heap.size w2 (w2.alloc (.cells #[.string ⟨#[108, 101, 102, 116]⟩, .string ⟨#[114, 105, 103, 104, 116]⟩, .string ⟨#[99, 101, 110, 116, 101, 114]⟩] 9)) := (Below.refl _ _).alloc (Nat.le_refl _) _
      have hk : Calls Tryd.prog 28 #[.agg #[.int .i64 1, .string text, .int .i64 n, .bool wh, .int .i64 c], .slice (some ⟨w2.heap.size, 0, none⟩) 3 3] (w2.alloc (.cells #[.string ⟨#[108, 101, 102, 116]⟩, .string ⟨#[114, 105, 103, 104, 116]⟩, .string ⟨#[99, 101, 110, 116, 101, 114]⟩] 9)) fun e w' => e = ret (keyV 1 low alT) ∧ Below (w2.alloc (.cells #[.string ⟨#[108, 101, 102, 116]⟩, .string ⟨#[114, 105, 103, 104, 116]⟩, .string ⟨#[99, 101, 110, 116, 101, 114]⟩] 9)).heap.size (w2.alloc (.cells #[.string ⟨#[108, 101, 102, 116]⟩, .string ⟨#[114, 105, 103, 104, 116]⟩, .string ⟨#[99, 101, 110, 116, 101, 114]⟩] 9)) w' := by
        rw [← hlw]
        exact refKey_any ⟨1, text, n, wh, c⟩ w2.heap.size 3 alT _ (StrsIn.new w2 alT 9) (by rw [World.size_alloc]; omega) (by decide) ht

      have hE : keyV 1 low alT = V := by rw [← hV]; rfl
      rw [hE] at hk
      clear hE hV
      go_wp2_with fail
      refine hk.mono ?_
      clear hk
      rintro e w3 ⟨rfl, b3⟩

      clear t0 t1 t2 t3 t4
      obtain ⟨kx, HF⟩ := (show ∀ (w1 : World), Below W.heap.size W w1 → Blk w1 w.heap.size 27 [.int .i64 0, .int .i64 0] ∧ ∀ a b, Below w.heap.size w (set2 w1 w.heap.size a b) from FIN) _ (b2.trans ((bA.trans (b3.mono bA.size)).mono b2.size))
      obtain ⟨⟨c0, c1⟩, f0, f1⟩ := blk2 kx
      have HFH : Hid (∀ a b, Below w.heap.size w (set2 w3 w.heap.size a b)) := HF
      clear HF FIN

      obtain ⟨v1, v2, v3⟩ := V
      unfold ret
      go_wp2
      refine bodyPost_ret (results_struct_tmp rfl _ _ w.heap.size _ rfl (load_val (blk_set2 kx _ _))) rfl ?_
      exact ⟨rfl, HFH _ _⟩

  rw [if_neg h1] at hV
  have e1 : (kind == 1) = false := by simpa using h1
  have b2 : Below W.heap.size W W := Below.refl _ _
  clear hlow
  have bA : Below W.heap.size W (W.alloc (.cells #[.string ⟨#[108, 101, 102, 116]⟩, .string ⟨#[114, 105, 103, 104, 116]⟩, .string ⟨#[99, 101, 110, 116, 101, 114]⟩] 9)) := (Below.refl _ _).alloc (Nat.le_refl _) _
  have hk : Calls Tryd.prog 28 #[.agg #[.int .i64 kind, .string text, .int .i64 n, .bool wh, .int .i64 c], .slice (some ⟨W.heap.size, 0, none⟩) 3 3] (W.alloc (.cells #[.string ⟨#[108, 101, 102, 116]⟩, .string ⟨#[114, 105, 103, 104, 116]⟩, .string ⟨#[99, 101, 110, 116, 101, 114]⟩] 9)) fun e w' => e = ret (keyV kind low alT) ∧ Below (W.alloc (.cells #[.string ⟨#[108, 101, 102, 116]⟩, .string ⟨#[114, 105, 103, 104, 116]⟩, .string ⟨#[99, 101, 110, 116, 101, 114]⟩] 9)).heap.size (W.alloc (.cells #[.string ⟨#[108, 101, 102, 116]⟩, .string ⟨#[114, 105, 103, 104, 116]⟩, .string ⟨#[99, 101, 110, 116, 101, 114]⟩] 9)) w' := by
    rw [← hlw]
    exact refKey_any ⟨kind, text, n, wh, c⟩ W.heap.size 3 alT _ (StrsIn.new W alT 9) (by rw [World.size_alloc]; omega) (by decide) ht

  have hE : keyV kind low alT = V := by rw [← hV]; rfl
  rw [hE] at hk
  clear hE hV
  go_wp2_with fail
  refine hk.mono ?_
  clear hk
  rintro e w3 ⟨rfl, b3⟩

  clear t0 t1 t2 t3 t4
  obtain ⟨kx, HF⟩ := (show ∀ (w1 : World), Below W.heap.size W w1 → Blk w1 w.heap.size 27 [.int .i64 0, .int .i64 0] ∧ ∀ a b, Below w.heap.size w (set2 w1 w.heap.size a b) from FIN) _ (b2.trans ((bA.trans (b3.mono bA.size)).mono b2.size))
  obtain ⟨⟨c0, c1⟩, f0, f1⟩ := blk2 kx
  have HFH : Hid (∀ a b, Below w.heap.size w (set2 w3 w.heap.size a b)) := HF
  clear HF FIN

  obtain ⟨v1, v2, v3⟩ := V
  unfold ret
  go_wp2
  refine bodyPost_ret (results_struct_tmp rfl _ _ w.heap.size _ rfl (load_val (blk_set2 kx _ _))) rfl ?_
  exact ⟨rfl, HFH _ _⟩



set_option maxRecDepth 100000 in
set_option maxHeartbeats 4000000 in
theorem refValue_3 (t : Bt) (bk off cap : Nat) (w : World) (hbk : bk < w.heap.size) (hat : BtAt w bk off t) (ht : t.text.size ≤ maxLen) :
    Calls Tryd.prog 11 #[.int .i64 3, .slice (some ⟨bk, off, none⟩) 1 cap] w fun e w' => e = ret (refV 3 t.kind t.text.data.toList (lowOf t) t.n t.whole) ∧ Below w.heap.size w w' := by
  obtain ⟨V, hV⟩ : ∃ V, refV 3 t.kind t.text.data.toList (lowOf t) t.n t.whole = V := ⟨_, rfl⟩
  rw [hV]
  obtain ⟨kind, text, n, wh, c⟩ := t
  obtain ⟨x0, x1, x2, x3, x4⟩ := hat
  simp only [lowOf] at hV ht ⊢ x0 x1 x2 x3 x4
  have hlow := fun X => Lw.refLower_any text X ht
  obtain ⟨low, hlw⟩ : ∃ low, Lw.low text.data.toList = low := ⟨_, rfl⟩
  rw [hlw] at hV
  simp only [hlw] at hlow
  unfold refV at hV
  have bz := zero_new w
  replace x0 := (bz.cell (p := ⟨bk, off, none⟩) hbk).trans x0
  replace x1 := (bz.cell (p := ⟨bk, off + 1, none⟩) hbk).trans x1
  replace x2 := (bz.cell (p := ⟨bk, off + 2, none⟩) hbk).trans x2
  replace x3 := (bz.cell (p := ⟨bk, off + 3, none⟩) hbk).trans x3
  replace x4 := (bz.cell (p := ⟨bk, off + 4, none⟩) hbk).trans x4
  have b0 : Below w.heap.size w ((w.alloc (.cells #[.int .i64 0, .int .i64 0] 27)).alloc (.cells #[.int .i64 kind, .string text, .int .i64 n, .bool wh, .int .i64 c] 25)) := ((Below.refl _ w).alloc (Nat.le_refl _) _).alloc (by rw [World.size_alloc]; omega) _
  have kV : Blk ((w.alloc (.cells #[.int .i64 0, .int .i64 0] 27)).alloc (.cells #[.int .i64 kind, .string text, .int .i64 n, .bool wh, .int .i64 c] 25)) w.heap.size 27 [.int .i64 0, .int .i64 0] := (Blk.new w 27 [.int .i64 0, .int .i64 0]).kept (World.grownBy_alloc _ _ none) (by simp)
  have kT : Blk ((w.alloc (.cells #[.int .i64 0, .int .i64 0] 27)).alloc (.cells #[.int .i64 kind, .string text, .int .i64 n, .bool wh, .int .i64 c] 25)) (w.heap.size + 1) 25 [.int .i64 kind, .string text, .int .i64 n, .bool wh, .int .i64 c] := by
    have := Blk.new (w.alloc (.cells #[.int .i64 0, .int .i64 0] 27)) 25 [.int .i64 kind, .string text, .int .i64 n, .bool wh, .int .i64 c]
    rwa [World.size_alloc] at this
  have hSz : ((w.alloc (.cells #[.int .i64 0, .int .i64 0] 27)).alloc (.cells #[.int .i64 kind, .string text, .int .i64 n, .bool wh, .int .i64 c] 25)).heap.size = w.heap.size + 2 := by rw [World.size_alloc, World.size_alloc]
  go_enter Tryd.func11, Tryd.ntmps11
  go_upto_region 4 with fail
  generalize ((w.alloc (.cells #[.int .i64 0, .int .i64 0] 27)).alloc (.cells #[.int .i64 kind, .string text, .int .i64 n, .bool wh, .int .i64 c] 25)) = W at *
  clear x0 x1 x2 x3 x4 bz
  obtain ⟨⟨t0, t1, t2, t3, t4⟩, _⟩ := blk5 kT
  have FIN : Hid (∀ (w1 : World), Below W.heap.size W w1 → Blk w1 w.heap.size 27 [.int .i64 0, .int .i64 0] ∧ ∀ a b, Below w.heap.size w (set2 w1 w.heap.size a b)) := fun w1 b1 =>
    ⟨kV.below b1 kV.lt, fun a b => below_grown (b0.trans (b1.mono b0.size)) (grown_set2 w1 w.heap.size a b) (by have := b1.size; omega) (by omega)⟩
  clear hSz
  by_cases h1 : kind = 1
  · subst h1
    rw [if_pos rfl] at hV
    go_wp2_with fail
    refine (hlow _).mono ?_
    clear hlow
    rintro e w1 ⟨rfl, b1⟩
    have bA : Below w1.heap.size w1 (w1.alloc (.cells #[.string ⟨#[105, 110, 104, 101, 114, 105, 116]⟩, .string ⟨#[105, 110, 105, 116, 105, 97, 108]⟩, .string ⟨#[117, 110, 115, 101, 116]⟩] 9)) := (Below.refl _ _).alloc (Nat.le_refl _) _
    have hk : Calls Tryd.prog 26 #[.string ⟨low.toArray⟩, .slice (some ⟨w1.heap.size, 0, none⟩) 3 3] (w1.alloc (.cells #[.string ⟨#[105, 110, 104, 101, 114, 105, 116]⟩, .string ⟨#[105, 110, 105, 116, 105, 97, 108]⟩, .string ⟨#[117, 110, 115, 101, 116]⟩] 9)) fun e w' => e = .returned (.tuple #[.int .i64 (idxV wideT low).1, .bool (idxV wideT low).2]) ∧ w' = (w1.alloc (.cells #[.string ⟨#[105, 110, 104, 101, 114, 105, 116]⟩, .string ⟨#[105, 110, 105, 116, 105, 97, 108]⟩, .string ⟨#[117, 110, 115, 101, 116]⟩] 9)) :=
      refWord_any ⟨low.toArray⟩ w1.heap.size 3 wideT _ (StrsIn.new w1 wideT 9) (by decide)
    unfold idxV at hk
    have b2 : Below W.heap.size W (w1.alloc (.cells #[.string ⟨#[105, 110, 104, 101, 114, 105, 116]⟩, .string ⟨#[105, 110, 105, 116, 105, 97, 108]⟩, .string ⟨#[117, 110, 115, 101, 116]⟩] 9)) := b1.trans (bA.mono b1.size)
    clear bA
    cases hi : idx wideT low with
    | some m =>
      have hm := idx_lt hi
      rw [hi] at hk hV
      have hw7 : IntKind.i64.wrap (7 + (m : Int)) = 7 + (m : Int) := by simp [wideT] at hm; rw [IntKind.wrap_i64]; omega
      obtain rfl : (7 + (m : Int), 0, true) = V := hV
      go_wp2_with fail
      refine hk.mono ?_
      clear hk
      rintro e w2 ⟨rfl, rfl⟩
      clear t0 t1 t2 t3 t4
      generalize (w1.alloc (.cells #[.string ⟨#[105, 110, 104, 101, 114, 105, 116]⟩, .string ⟨#[105, 110, 105, 116, 105, 97, 108]⟩, .string ⟨#[117, 110, 115, 101, 116]⟩] 9)) = w2 at *
      obtain ⟨kx, HF⟩ := (show ∀ (w1 : World), Below W.heap.size W w1 → Blk w1 w.heap.size 27 [.int .i64 0, .int .i64 0] ∧ ∀ a b, Below w.heap.size w (set2 w1 w.heap.size a b) from FIN) _ (b2)
      obtain ⟨⟨c0, c1⟩, f0, f1⟩ := blk2 kx
      have HFH : Hid (∀ a b, Below w.heap.size w (set2 w2 w.heap.size a b)) := HF
      clear HF FIN

      go_wp2
      refine bodyPost_ret (results_struct_tmp rfl _ _ w.heap.size _ rfl (load_val (blk_set2 kx _ _))) rfl ?_
      exact ⟨rfl, HFH _ _⟩

    | none =>
      rw [hi] at hk hV
      go_wp2_with fail
      refine hk.mono ?_
      clear hk
      rintro e w2 ⟨rfl, rfl⟩
      generalize (w1.alloc (.cells #[.string ⟨#[105, 110, 104, 101, 114, 105, 116]⟩, .string ⟨#[105, 110, 105, 116, 105, 97, 108]⟩, .string ⟨#[117, 110, 115, 101, 116]⟩] 9)) = w2 at *
      clear hi b1
      have kT2 := kT.below b2 kT.lt
      clear t0 t1 t2 t3 t4
      obtain ⟨⟨t0, t1, t2, t3, t4⟩, _⟩ := blk5 kT2
      replace hV : restV 3 1 text.data.toList low n wh = V := hV
      have bA : Below w2.heap.size w2 (w2.alloc (.cells #[.string ⟨#[110, 111, 110, 101]⟩, .string ⟨#[98, 108, 111, 99, 107]⟩, .string ⟨#[105, 110, 108, 105, 110, 101]⟩] 9)) := (Below.refl _ _).alloc (Nat.le_refl _) _
      have hk : Calls Tryd.prog 28 #[.agg #[.int .i64 1, .string text, .int .i64 n, .bool wh, .int .i64 c], .slice (some ⟨w2.heap.size, 0, none⟩) 3 3] (w2.alloc (.cells #[.string ⟨#[110, 111, 110, 101]⟩, .string ⟨#[98, 108, 111, 99, 107]⟩, .string ⟨#[105, 110, 108, 105, 110, 101]⟩] 9)) fun e w' => e = ret (keyV 1 low dispT) ∧ Below (w2.alloc (.cells #[.string ⟨#[110, 111, 110, 101]⟩, .string ⟨#[98, 108, 111, 99, 107]⟩, .string ⟨#[105, 110, 108, 105, 110, 101]⟩] 9)).heap.size (w2.alloc (.cells #[.string ⟨#[110, 111, 110, 101]⟩, .string ⟨#[98, 108, 111, 99, 107]⟩, .string ⟨#[105, 110, 108, 105, 110, 101]⟩] 9)) w' := by
        rw [← hlw]
        exact refKey_any ⟨1, text, n, wh, c⟩ w2.heap.size 3 dispT _ (StrsIn.new w2 dispT 9) (by rw [World.size_alloc]; omega) (by decide) ht

      have hE : keyV 1 low dispT = V := by rw [← hV]; rfl
      rw [hE] at hk
      clear hE hV
      go_wp2_with fail
      refine hk.mono ?_
      clear hk
      rintro e w3 ⟨rfl, b3⟩

      clear t0 t1 t2 t3 t4
      obtain ⟨kx, HF⟩ := (show ∀ (w1 : World), Below W.heap.size W w1 → Blk w1 w.heap.size 27 [.int .i64 0, .int .i64 0] ∧ ∀ a b, Below w.heap.size w (set2 w1 w.heap.size a b) from FIN) _ (b2.trans ((bA.trans (b3.mono bA.size)).mono b2.size))
      obtain ⟨⟨c0, c1⟩, f0, f1⟩ := blk2 kx
      have HFH : Hid (∀ a b, Below w.heap.size w (set2 w3 w.heap.size a b)) := HF
      clear HF FIN

      obtain ⟨v1, v2, v3⟩ := V
      unfold ret
      go_wp2
      refine bodyPost_ret (results_struct_tmp rfl _ _ w.heap.size _ rfl (load_val (blk_set2 kx _ _))) rfl ?_
      exact ⟨rfl, HFH _ _⟩

  rw [if_neg h1] at hV
  have e1 : (kind == 1) = false := by simpa using h1
  have b2 : Below W.heap.size W W := Below.refl _ _
  clear hlow
  have bA : Below W.heap.size W (W.alloc (.cells #[.string ⟨#[110, 111, 110, 101]⟩, .string ⟨#[98, 108, 111, 99, 107]⟩, .string ⟨#[105, 110, 108, 105, 110, 101]⟩] 9)) := (Below.refl _ _).alloc (Nat.le_refl _) _
  have hk : Calls Tryd.prog 28 #[.agg #[.int .i64 kind, .string text, .int .i64 n, .bool wh, .int .i64 c], .slice (some ⟨W.heap.size, 0, none⟩) 3 3] (W.alloc (.cells #[.string ⟨#[110, 111, 110, 101]⟩, .string ⟨#[98, 108, 111, 99, 107]⟩, .string ⟨#[105, 110, 108, 105, 110, 101]⟩] 9)) fun e w' => e = ret (keyV kind low dispT) ∧ Below (W.alloc (.cells #[.string ⟨#[110, 111, 110, 101]⟩, .string ⟨#[98, 108, 111, 99, 107]⟩, .string ⟨#[105, 110, 108, 105, 110, 101]⟩] 9)).heap.size (W.alloc (.cells #[.string ⟨#[110, 111, 110, 101]⟩, .string ⟨#[98, 108, 111, 99, 107]⟩, .string ⟨#[105, 110, 108, 105, 110, 101]⟩] 9)) w' := by
    rw [← hlw]
    exact refKey_any ⟨kind, text, n, wh, c⟩ W.heap.size 3 dispT _ (StrsIn.new W dispT 9) (by rw [World.size_alloc]; omega) (by decide) ht

  have hE : keyV kind low dispT = V := by rw [← hV]; rfl
  rw [hE] at hk
  clear hE hV
  go_wp2_with fail
  refine hk.mono ?_
  clear hk
  rintro e w3 ⟨rfl, b3⟩

  clear t0 t1 t2 t3 t4
  obtain ⟨kx, HF⟩ := (show ∀ (w1 : World), Below W.heap.size W w1 → Blk w1 w.heap.size 27 [.int .i64 0, .int .i64 0] ∧ ∀ a b, Below w.heap.size w (set2 w1 w.heap.size a b) from FIN) _ (b2.trans ((bA.trans (b3.mono bA.size)).mono b2.size))
  obtain ⟨⟨c0, c1⟩, f0, f1⟩ := blk2 kx
  have HFH : Hid (∀ a b, Below w.heap.size w (set2 w3 w.heap.size a b)) := HF
  clear HF FIN

  obtain ⟨v1, v2, v3⟩ := V
  unfold ret
  go_wp2
  refine bodyPost_ret (results_struct_tmp rfl _ _ w.heap.size _ rfl (load_val (blk_set2 kx _ _))) rfl ?_
  exact ⟨rfl, HFH _ _⟩



set_option maxRecDepth 100000 in
set_option maxHeartbeats 4000000 in
theorem refValue_6 (t : Bt) (bk off cap : Nat) (w : World) (hbk : bk < w.heap.size) (hat : BtAt w bk off t) (ht : t.text.size ≤ maxLen) :
    Calls Tryd.prog 11 #[.int .i64 6, .slice (some ⟨bk, off, none⟩) 1 cap] w fun e w' => e = ret (refV 6 t.kind t.text.data.toList (lowOf t) t.n t.whole) ∧ Below w.heap.size w w' := by
  obtain ⟨V, hV⟩ : ∃ V, refV 6 t.kind t.text.data.toList (lowOf t) t.n t.whole = V := ⟨_, rfl⟩
  rw [hV]
  obtain ⟨kind, text, n, wh, c⟩ := t
  obtain ⟨x0, x1, x2, x3, x4⟩ := hat
  simp only [lowOf] at hV ht ⊢ x0 x1 x2 x3 x4
  have hlow := fun X => Lw.refLower_any text X ht
  obtain ⟨low, hlw⟩ : ∃ low, Lw.low text.data.toList = low := ⟨_, rfl⟩
  rw [hlw] at hV
  simp only [hlw] at hlow
  unfold refV at hV
  have bz := zero_new w
  replace x0 := (bz.cell (p := ⟨bk, off, none⟩) hbk).trans x0
  replace x1 := (bz.cell (p := ⟨bk, off + 1, none⟩) hbk).trans x1
  replace x2 := (bz.cell (p := ⟨bk, off + 2, none⟩) hbk).trans x2
  replace x3 := (bz.cell (p := ⟨bk, off + 3, none⟩) hbk).trans x3
  replace x4 := (bz.cell (p := ⟨bk, off + 4, none⟩) hbk).trans x4
  have b0 : Below w.heap.size w ((w.alloc (.cells #[.int .i64 0, .int .i64 0] 27)).alloc (.cells #[.int .i64 kind, .string text, .int .i64 n, .bool wh, .int .i64 c] 25)) := ((Below.refl _ w).alloc (Nat.le_refl _) _).alloc (by rw [World.size_alloc]; omega) _
  have kV : Blk ((w.alloc (.cells #[.int .i64 0, .int .i64 0] 27)).alloc (.cells #[.int .i64 kind, .string text, .int .i64 n, .bool wh, .int .i64 c] 25)) w.heap.size 27 [.int .i64 0, .int .i64 0] := (Blk.new w 27 [.int .i64 0, .int .i64 0]).kept (World.grownBy_alloc _ _ none) (by simp)
  have kT : Blk ((w.alloc (.cells #[.int .i64 0, .int .i64 0] 27)).alloc (.cells #[.int .i64 kind, .string text, .int .i64 n, .bool wh, .int .i64 c] 25)) (w.heap.size + 1) 25 [.int .i64 kind, .string text, .int .i64 n, .bool wh, .int .i64 c] := by
    have := Blk.new (w.alloc (.cells #[.int .i64 0, .int .i64 0] 27)) 25 [.int .i64 kind, .string text, .int .i64 n, .bool wh, .int .i64 c]
    rwa [World.size_alloc] at this
  have hSz : ((w.alloc (.cells #[.int .i64 0, .int .i64 0] 27)).alloc (.cells #[.int .i64 kind, .string text, .int .i64 n, .bool wh, .int .i64 c] 25)).heap.size = w.heap.size + 2 := by rw [World.size_alloc, World.size_alloc]
  go_enter Tryd.func11, Tryd.ntmps11
  go_upto_region 4 with fail
  generalize ((w.alloc (.cells #[.int .i64 0, .int .i64 0] 27)).alloc (.cells #[.int .i64 kind, .string text, .int .i64 n, .bool wh, .int .i64 c] 25)) = W at *
  clear x0 x1 x2 x3 x4 bz
  obtain ⟨⟨t0, t1, t2, t3, t4⟩, _⟩ := blk5 kT
  have FIN : Hid (∀ (w1 : World), Below W.heap.size W w1 → Blk w1 w.heap.size 27 [.int .i64 0, .int .i64 0] ∧ ∀ a b, Below w.heap.size w (set2 w1 w.heap.size a b)) := fun w1 b1 =>
    ⟨kV.below b1 kV.lt, fun a b => below_grown (b0.trans (b1.mono b0.size)) (grown_set2 w1 w.heap.size a b) (by have := b1.size; omega) (by omega)⟩
  clear hSz
  by_cases h1 : kind = 1
  · subst h1
    rw [if_pos rfl] at hV
    go_wp2_with fail
    refine (hlow _).mono ?_
    clear hlow
    rintro e w1 ⟨rfl, b1⟩
    have bA : Below w1.heap.size w1 (w1.alloc (.cells #[.string ⟨#[105, 110, 104, 101, 114, 105, 116]⟩, .string ⟨#[105, 110, 105, 116, 105, 97, 108]⟩, .string ⟨#[117, 110, 115, 101, 116]⟩] 9)) := (Below.refl _ _).alloc (Nat.le_refl _) _
    have hk : Calls Tryd.prog 26 #[.string ⟨low.toArray⟩, .slice (some ⟨w1.heap.size, 0, none⟩) 3 3] (w1.alloc (.cells #[.string ⟨#[105, 110, 104, 101, 114, 105, 116]⟩, .string ⟨#[105, 110, 105, 116, 105, 97, 108]⟩, .string ⟨#[117, 110, 115, 101, 116]⟩] 9)) fun e w' => e = .returned (.tuple #[.int .i64 (idxV wideT low).1, .bool (idxV wideT low).2]) ∧ w' = (w1.alloc (.cells #[.string ⟨#[105, 110, 104, 101, 114, 105, 116]⟩, .string ⟨#[105, 110, 105, 116, 105, 97, 108]⟩, .string ⟨#[117, 110, 115, 101, 116]⟩] 9)) :=
      refWord_any ⟨low.toArray⟩ w1.heap.size 3 wideT _ (StrsIn.new w1 wideT 9) (by decide)
    unfold idxV at hk
    have b2 : Below W.heap.size W (w1.alloc (.cells #[.string ⟨#[105, 110, 104, 101, 114, 105, 116]⟩, .string ⟨#[105, 110, 105, 116, 105, 97, 108]⟩, .string ⟨#[117, 110, 115, 101, 116]⟩] 9)) := b1.trans (bA.mono b1.size)
    clear bA
    cases hi : idx wideT low with
    | some m =>
      have hm := idx_lt hi
      rw [hi] at hk hV
      have hw7 : IntKind.i64.wrap (7 + (m : Int)) = 7 + (m : Int) := by simp [wideT] at hm; rw [IntKind.wrap_i64]; omega
      obtain rfl : (7 + (m : Int), 0, true) = V := hV
      go_wp2_with fail
      refine hk.mono ?_
      clear hk
      rintro e w2 ⟨rfl, rfl⟩
      clear t0 t1 t2 t3 t4
      generalize (w1.alloc (.cells #[.string ⟨#[105, 110, 104, 101, 114, 105, 116]⟩, .string ⟨#[105, 110, 105, 116, 105, 97, 108]⟩, .string ⟨#[117, 110, 115, 101, 116]⟩] 9)) = w2 at *
      obtain ⟨kx, HF⟩ := (show ∀ (w1 : World), Below W.heap.size W w1 → Blk w1 w.heap.size 27 [.int .i64 0, .int .i64 0] ∧ ∀ a b, Below w.heap.size w (set2 w1 w.heap.size a b) from FIN) _ (b2)
      obtain ⟨⟨c0, c1⟩, f0, f1⟩ := blk2 kx
      have HFH : Hid (∀ a b, Below w.heap.size w (set2 w2 w.heap.size a b)) := HF
      clear HF FIN

      go_wp2
      refine bodyPost_ret (results_struct_tmp rfl _ _ w.heap.size _ rfl (load_val (blk_set2 kx _ _))) rfl ?_
      exact ⟨rfl, HFH _ _⟩

    | none =>
      rw [hi] at hk hV
      go_wp2_with fail
      refine hk.mono ?_
      clear hk
      rintro e w2 ⟨rfl, rfl⟩
      generalize (w1.alloc (.cells #[.string ⟨#[105, 110, 104, 101, 114, 105, 116]⟩, .string ⟨#[105, 110, 105, 116, 105, 97, 108]⟩, .string ⟨#[117, 110, 115, 101, 116]⟩] 9)) = w2 at *
      clear hi b1
      have kT2 := kT.below b2 kT.lt
      clear t0 t1 t2 t3 t4
      obtain ⟨⟨t0, t1, t2, t3, t4⟩, _⟩ := blk5 kT2
      replace hV : restV 6 1 text.data.toList low n wh = V := hV
      obtain rfl : no = V := by rw [← hV]; rfl
      clear hV

      obtain ⟨kx, HF⟩ := (show ∀ (w1 : World), Below W.heap.size W w1 → Blk w1 w.heap.size 27 [.int .i64 0, .int .i64 0] ∧ ∀ a b, Below w.heap.size w (set2 w1 w.heap.size a b) from FIN) _ (b2)
      obtain ⟨⟨c0, c1⟩, f0, f1⟩ := blk2 kx
      have HFH : Hid (∀ a b, Below w.heap.size w (set2 w2 w.heap.size a b)) := HF
      clear HF FIN

      go_wp2
      refine bodyPost_ret (results_struct_tmp rfl _ _ w.heap.size _ rfl (load_val (blk_set2 kx _ _))) rfl ?_
      exact ⟨rfl, HFH _ _⟩

  rw [if_neg h1] at hV
  have e1 : (kind == 1) = false := by simpa using h1
  have b2 : Below W.heap.size W W := Below.refl _ _
  clear hlow
  by_cases h6 : kind = 6
  · subst h6
    have hE : ((5 : Int), cutV n, true) = V := by rw [← hV]; rfl
    clear hV
    unfold cutV at hE
    by_cases g1 : n < 0
    · rw [if_pos g1] at hE
      subst hE
      have g2 : ¬ (1000 : Int) < n := by omega
      obtain ⟨kx, HF⟩ := (show ∀ (w1 : World), Below W.heap.size W w1 → Blk w1 w.heap.size 27 [.int .i64 0, .int .i64 0] ∧ ∀ a b, Below w.heap.size w (set2 w1 w.heap.size a b) from FIN) _ (b2)
      obtain ⟨⟨c0, c1⟩, f0, f1⟩ := blk2 kx
      have HFH : Hid (∀ a b, Below w.heap.size w (set2 W w.heap.size a b)) := HF
      clear HF FIN

      go_wp2
      refine bodyPost_ret (results_struct_tmp rfl _ _ w.heap.size _ rfl (load_val (blk_set2 kx _ _))) rfl ?_
      exact ⟨rfl, HFH _ _⟩

    rw [if_neg g1] at hE
    by_cases g2 : 1000 < n
    · rw [if_pos g2] at hE
      subst hE
      obtain ⟨kx, HF⟩ := (show ∀ (w1 : World), Below W.heap.size W w1 → Blk w1 w.heap.size 27 [.int .i64 0, .int .i64 0] ∧ ∀ a b, Below w.heap.size w (set2 w1 w.heap.size a b) from FIN) _ (b2)
      obtain ⟨⟨c0, c1⟩, f0, f1⟩ := blk2 kx
      have HFH : Hid (∀ a b, Below w.heap.size w (set2 W w.heap.size a b)) := HF
      clear HF FIN

      go_wp2
      refine bodyPost_ret (results_struct_tmp rfl _ _ w.heap.size _ rfl (load_val (blk_set2 kx _ _))) rfl ?_
      exact ⟨rfl, HFH _ _⟩

    rw [if_neg g2] at hE
    subst hE
    obtain ⟨kx, HF⟩ := (show ∀ (w1 : World), Below W.heap.size W w1 → Blk w1 w.heap.size 27 [.int .i64 0, .int .i64 0] ∧ ∀ a b, Below w.heap.size w (set2 w1 w.heap.size a b) from FIN) _ (b2)
    obtain ⟨⟨c0, c1⟩, f0, f1⟩ := blk2 kx
    have HFH : Hid (∀ a b, Below w.heap.size w (set2 W w.heap.size a b)) := HF
    clear HF FIN

    go_wp2
    refine bodyPost_ret (results_struct_tmp rfl _ _ w.heap.size _ rfl (load_val (blk_set2 kx _ _))) rfl ?_
    exact ⟨rfl, HFH _ _⟩

  have e6 : (kind != 6) = true := by simpa using h6

  obtain rfl : no = V := by rw [← hV]; simp [restV, h6]
  clear hV h6 h1

  obtain ⟨kx, HF⟩ := (show ∀ (w1 : World), Below W.heap.size W w1 → Blk w1 w.heap.size 27 [.int .i64 0, .int .i64 0] ∧ ∀ a b, Below w.heap.size w (set2 w1 w.heap.size a b) from FIN) _ (b2)
  obtain ⟨⟨c0, c1⟩, f0, f1⟩ := blk2 kx
  have HFH : Hid (∀ a b, Below w.heap.size w (set2 W w.heap.size a b)) := HF
  clear HF FIN

  go_wp2
  refine bodyPost_ret (results_struct_tmp rfl _ _ w.heap.size _ rfl (load_val (blk_set2 kx _ _))) rfl ?_
  exact ⟨rfl, HFH _ _⟩



end Go.Proofs.YtghjpefkeobfnaaDoor.Vl
