/- The document's own Value, property by property: 0. -/
import Derived.Test.YtghjpefkeobfnaaDoorVlRefC
namespace Go.Proofs.YtghjpefkeobfnaaDoor.Vl
open Go Go.RowKit

set_option maxRecDepth 100000 in
set_option maxHeartbeats 4000000 in
theorem refValue_0 (t : Bt) (bk off cap : Nat) (w : World) (hbk : bk < w.heap.size) (hat : BtAt w bk off t) (ht : t.text.size ≤ maxLen) :
    Calls Tryd.prog 11 #[.int .i64 0, .slice (some ⟨bk, off, none⟩) 1 cap] w fun e w' => e = ret (refV 0 t.kind t.text.data.toList (lowOf t) t.n t.whole) ∧ Below w.heap.size w w' := by
  obtain ⟨V, hV⟩ : ∃ V, refV 0 t.kind t.text.data.toList (lowOf t) t.n t.whole = V := ⟨_, rfl⟩
  rw [hV]
  obtain ⟨kind, text, n, wh, c⟩ := t
  obtain ⟨x0, x1, x2, x3, x4⟩ := hat
  simp only [lowOf] at hV ht ⊢ x0 x1 x2 x3 x4
  have hlow := fun X => Lw.refLower_any text X ht
  obtain ⟨low, hlw⟩ : ∃ low, Lw.low text.data.toList = low := ⟨_, rfl⟩
  rw [hlw] at hV
  simp only [hlw] at hlow
  unfold refV at hV
  have bz := zero_new w
  replace x0 := (bz.cell (p := ⟨bk, off, none⟩) hbk).trans x0
  replace x1 := (bz.cell (p := ⟨bk, off + 1, none⟩) hbk).trans x1
  replace x2 := (bz.cell (p := ⟨bk, off + 2, none⟩) hbk).trans x2
  replace x3 := (bz.cell (p := ⟨bk, off + 3, none⟩) hbk).trans x3
  replace x4 := (bz.cell (p := ⟨bk, off + 4, none⟩) hbk).trans x4
  have b0 : Below w.heap.size w ((w.alloc (.cells #[.int .i64 0, .int .i64 0] 27)).alloc (.cells #[.int .i64 kind, .string text, .int .i64 n, .bool wh, .int .i64 c] 25)) := ((Below.refl _ w).alloc (Nat.le_refl _) _).alloc (by rw [World.size_alloc]; omega) _
  have kV : Blk ((w.alloc (.cells #[.int .i64 0, .int .i64 0] 27)).alloc (.cells #[.int .i64 kind, .string text, .int .i64 n, .bool wh, .int .i64 c] 25)) w.heap.size 27 [.int .i64 0, .int .i64 0] := (Blk.new w 27 [.int .i64 0, .int .i64 0]).kept (World.grownBy_alloc _ _ none) (by simp)
  have kT : Blk ((w.alloc (.cells #[.int .i64 0, .int .i64 0] 27)).alloc (.cells #[.int .i64 kind, .string text, .int .i64 n, .bool wh, .int .i64 c] 25)) (w.heap.size + 1) 25 [.int .i64 kind, .string text, .int .i64 n, .bool wh, .int .i64 c] := by
    have := Blk.new (w.alloc (.cells #[.int .i64 0, .int .i64 0] 27)) 25 [.int .i64 kind, .string text, .int .i64 n, .bool wh, .int .i64 c]
    rwa [World.size_alloc] at this
  have hSz : ((w.alloc (.cells #[.int .i64 0, .int .i64 0] 27)).alloc (.cells #[.int .i64 kind, .string text, .int .i64 n, .bool wh, .int .i64 c] 25)).heap.size = w.heap.size + 2 := by rw [World.size_alloc, World.size_alloc]
  go_enter Tryd.func11, Tryd.ntmps11
  go_upto_region 4 with fail
  generalize ((w.alloc (.cells #[.int .i64 0, .int .i64 0] 27)).alloc (.cells #[.int .i64 kind, .string text, .int .i64 n, .bool wh, .int .i64 c] 25)) = W at *
  clear x0 x1 x2 x3 x4 bz
  obtain ⟨⟨t0, t1, t2, t3, t4⟩, _⟩ := blk5 kT
  have FIN : Hid (∀ (w1 : World), Below W.heap.size W w1 → Blk w1 w.heap.size 27 [.int .i64 0, .int .i64 0] ∧ ∀ a b, Below w.heap.size w (set2 w1 w.heap.size a b)) := fun w1 b1 =>
    ⟨kV.below b1 kV.lt, fun a b => below_grown (b0.trans (b1.mono b0.size)) (grown_set2 w1 w.heap.size a b) (by have := b1.size; omega) (by omega)⟩
  clear hSz
  by_cases h1 : kind = 1
  · subst h1
    rw [if_pos rfl] at hV
    go_wp2_with fail
    refine (hlow _).mono ?_
    clear hlow
    rintro e w1 ⟨rfl, b1⟩
    have bA : Below w1.heap.size w1 (w1.alloc (.cells #[.string ⟨#[105, 110, 104, 101, 114, 105, 116]⟩, .string ⟨#[105, 110, 105, 116, 105, 97, 108]⟩, .string ⟨#[117, 110, 115, 101, 116]⟩] 9)) := (Below.refl _ _).alloc (Nat.le_refl _) _
    have hk : Calls Tryd.prog 26 #[.string ⟨low.toArray⟩, .slice (some ⟨w1.heap.size, 0, none⟩) 3 3] (w1.alloc (.cells #[.string ⟨#[105, 110, 104, 101, 114, 105, 116]⟩, .string ⟨#[105, 110, 105, 116, 105, 97, 108]⟩, .string ⟨#[117, 110, 115, 101, 116]⟩] 9)) fun e w' => e = .returned (.tuple #[.int .i64 (idxV wideT low).1, .bool (idxV wideT low).2]) ∧ w' = (w1.alloc (.cells #[.string ⟨#[105, 110, 104, 101, 114, 105, 116]⟩, .string ⟨#[105, 110, 105, 116, 105, 97, 108]⟩, .string ⟨#[117, 110, 115, 101, 116]⟩] 9)) :=
      refWord_any ⟨low.toArray⟩ w1.heap.size 3 wideT _ (StrsIn.new w1 wideT 9) (by decide)
    unfold idxV at hk
    have b2 : Below W.heap.size W (w1.alloc (.cells #[.string ⟨#[105, 110, 104, 101, 114, 105, 116]⟩, .string ⟨#[105, 110, 105, 116, 105, 97, 108]⟩, .string ⟨#[117, 110, 115, 101, 116]⟩] 9)) := b1.trans (bA.mono b1.size)
    clear bA
    cases hi : idx wideT low with
    | some m =>
      have hm := idx_lt hi
      rw [hi] at hk hV
      have hw7 : IntKind.i64.wrap (7 + (m : Int)) = 7 + (m : Int) := by simp [wideT] at hm; rw [IntKind.wrap_i64]; omega
      obtain rfl : (7 + (m : Int), 0, true) = V := hV
      go_wp2_with fail
      refine hk.mono ?_
      clear hk
      rintro e w2 ⟨rfl, rfl⟩
      clear t0 t1 t2 t3 t4
      generalize (w1.alloc (.cells #[.string ⟨#[105, 110, 104, 101, 114, 105, 116]⟩, .string ⟨#[105, 110, 105, 116, 105, 97, 108]⟩, .string ⟨#[117, 110, 115, 101, 116]⟩] 9)) = w2 at *
      obtain ⟨kx, HF⟩ := (show ∀ (w1 : World), Below W.heap.size W w1 → Blk w1 w.heap.size 27 [.int .i64 0, .int .i64 0] ∧ ∀ a b, Below w.heap.size w (set2 w1 w.heap.size a b) from FIN) _ (b2)
      obtain ⟨⟨c0, c1⟩, f0, f1⟩ := blk2 kx
      have HFH : Hid (∀ a b, Below w.heap.size w (set2 w2 w.heap.size a b)) := HF
      clear HF FIN

      go_wp2
      refine bodyPost_ret (results_struct_tmp rfl _ _ w.heap.size _ rfl (load_val (blk_set2 kx _ _))) rfl ?_
      exact ⟨rfl, HFH _ _⟩

    | none =>
      rw [hi] at hk hV
      go_wp2_with fail
      refine hk.mono ?_
      clear hk
      rintro e w2 ⟨rfl, rfl⟩
      generalize (w1.alloc (.cells #[.string ⟨#[105, 110, 104, 101, 114, 105, 116]⟩, .string ⟨#[105, 110, 105, 116, 105, 97, 108]⟩, .string ⟨#[117, 110, 115, 101, 116]⟩] 9)) = w2 at *
      clear hi b1
      have kT2 := kT.below b2 kT.lt
      clear t0 t1 t2 t3 t4
      obtain ⟨⟨t0, t1, t2, t3, t4⟩, _⟩ := blk5 kT2
      replace hV : restV 0 1 text.data.toList low n wh = V := hV
      have bA : Below w2.heap.size w2 (w2.alloc (.cells #[.string ⟨#[98, 108, 97, 99, 107]⟩, .string ⟨#[119, 104, 105, 116, 101]⟩, .string ⟨#[114, 101, 100]⟩, .string ⟨#[103, 114, 101, 101, 110]⟩, .string ⟨#[98, 108, 117, 101]⟩] 9)) := (Below.refl _ _).alloc (Nat.le_refl _) _
      have hk : Calls Tryd.prog 28 #[.agg #[.int .i64 1, .string text, .int .i64 n, .bool wh, .int .i64 c], .slice (some ⟨w2.heap.size, 0, none⟩) 5 5] (w2.alloc (.cells #[.string ⟨#[98, 108, 97, 99, 107]⟩, .string ⟨#[119, 104, 105, 116, 101]⟩, .string ⟨#[114, 101, 100]⟩, .string ⟨#[103, 114, 101, 101, 110]⟩, .string ⟨#[98, 108, 117, 101]⟩] 9)) fun e w' => e = ret (keyV 1 low colT) ∧ Below (w2.alloc (.cells #[.string ⟨#[98, 108, 97, 99, 107]⟩, .string ⟨#[119, 104, 105, 116, 101]⟩, .string ⟨#[114, 101, 100]⟩, .string ⟨#[103, 114, 101, 101, 110]⟩, .string ⟨#[98, 108, 117, 101]⟩] 9)).heap.size (w2.alloc (.cells #[.string ⟨#[98, 108, 97, 99, 107]⟩, .string ⟨#[119, 104, 105, 116, 101]⟩, .string ⟨#[114, 101, 100]⟩, .string ⟨#[103, 114, 101, 101, 110]⟩, .string ⟨#[98, 108, 117, 101]⟩] 9)) w' := by
        rw [← hlw]
        exact refKey_any ⟨1, text, n, wh, c⟩ w2.heap.size 5 colT _ (StrsIn.new w2 colT 9) (by rw [World.size_alloc]; omega) (by decide) ht

      unfold keyV at hk
      rw [if_pos rfl] at hk
      cases hi : idx colT low with
      | none =>
        rw [hi] at hk
        obtain rfl : no = V := by rw [← hV]; simp [restV, hi]
        clear hV
        go_wp2_with fail
        refine hk.mono ?_
        clear hk
        rintro e w3 ⟨rfl, b3⟩
        clear t0 t1 t2 t3 t4
        obtain ⟨kx, HF⟩ := (show ∀ (w1 : World), Below W.heap.size W w1 → Blk w1 w.heap.size 27 [.int .i64 0, .int .i64 0] ∧ ∀ a b, Below w.heap.size w (set2 w1 w.heap.size a b) from FIN) _ (b2.trans ((bA.trans (b3.mono bA.size)).mono b2.size))
        obtain ⟨⟨c0, c1⟩, f0, f1⟩ := blk2 kx
        have hBx := kx.lt
        have HFH : Hid (∀ a b o, Below w.heap.size w ((set2 w3 w.heap.size a b).alloc o)) := fun a b o => (HF a b).alloc (Nat.le_trans (Nat.le_of_lt hBx) (grown_set2 w3 w.heap.size a b).size) _
        clear HF FIN
        unfold ret no
        go_wp2
        refine bodyPost_ret (results_struct_tmp rfl _ _ w.heap.size _ rfl (load_val ((blk_set2 kx _ _).kept (World.grownBy_alloc _ _ none) (by simp)))) rfl ?_
        exact ⟨rfl, HFH _ _ _⟩

      | some m =>
        rw [hi] at hk
        have hm := idx_lt hi
        obtain rfl : (6, colTab.getD m 0, true) = V := by rw [← hV]; simp [restV, hi]
        clear hV
        go_wp2_with fail
        refine hk.mono ?_
        clear hk
        rintro e w3 ⟨rfl, b3⟩
        clear t0 t1 t2 t3 t4
        obtain ⟨kx, HF⟩ := (show ∀ (w1 : World), Below W.heap.size W w1 → Blk w1 w.heap.size 27 [.int .i64 0, .int .i64 0] ∧ ∀ a b, Below w.heap.size w (set2 w1 w.heap.size a b) from FIN) _ (b2.trans ((bA.trans (b3.mono bA.size)).mono b2.size))
        obtain ⟨⟨c0, c1⟩, f0, f1⟩ := blk2 kx
        have hBx := kx.lt
        have HFH : Hid (∀ a b o o', Below w.heap.size w (((set2 w3 w.heap.size a b).alloc o).alloc o')) := fun a b o o' => ((HF a b).alloc (Nat.le_trans (Nat.le_of_lt hBx) (grown_set2 w3 w.heap.size a b).size) _).alloc (Nat.le_trans (Nat.le_trans (Nat.le_of_lt hBx) (grown_set2 w3 w.heap.size a b).size) (by rw [World.size_alloc]; omega)) _
        clear HF FIN
        unfold ret
        obtain rfl | rfl | rfl | rfl | rfl : m = 0 ∨ m = 1 ∨ m = 2 ∨ m = 3 ∨ m = 4 := by simp [colT] at hm; omega
        all_goals
          go_wp2
          refine bodyPost_ret (results_struct_tmp rfl _ _ w.heap.size _ rfl (load_val (((blk_set2 kx _ _).kept (World.grownBy_alloc _ _ none) (by simp)).kept (World.grownBy_alloc _ _ none) (by simp)))) rfl ?_
          exact ⟨rfl, HFH _ _ _ _⟩


  rw [if_neg h1] at hV
  have e1 : (kind == 1) = false := by simpa using h1
  have b2 : Below W.heap.size W W := Below.refl _ _
  clear hlow
  by_cases h3 : kind = 3
  · subst h3
    have hc := refColor_any text W
    unfold colorP at hc
    cases hn : colorN text.data.toList with
    | none =>
      rw [hn] at hc
      obtain rfl : no = V := by rw [← hV]; simp [restV, hn]
      clear hV
      go_wp2_with fail
      refine hc.mono ?_
      clear hc
      rintro e w3 ⟨rfl, rfl⟩
      obtain ⟨kx, HF⟩ := (show ∀ (w1 : World), Below w3.heap.size w3 w1 → Blk w1 w.heap.size 27 [.int .i64 0, .int .i64 0] ∧ ∀ a b, Below w.heap.size w (set2 w1 w.heap.size a b) from FIN) _ (b2)
      obtain ⟨⟨c0, c1⟩, f0, f1⟩ := blk2 kx
      have HFH : Hid (∀ a b, Below w.heap.size w (set2 w3 w.heap.size a b)) := HF
      clear HF FIN

      go_wp2
      refine bodyPost_ret (results_struct_tmp rfl _ _ w.heap.size _ rfl (load_val (blk_set2 kx _ _))) rfl ?_
      exact ⟨rfl, HFH _ _⟩

    | some m =>
      rw [hn] at hc
      obtain rfl : (6, m, true) = V := by rw [← hV]; simp [restV, hn]
      clear hV
      go_wp2_with fail
      refine hc.mono ?_
      clear hc
      rintro e w3 ⟨rfl, rfl⟩
      obtain ⟨kx, HF⟩ := (show ∀ (w1 : World), Below w3.heap.size w3 w1 → Blk w1 w.heap.size 27 [.int .i64 0, .int .i64 0] ∧ ∀ a b, Below w.heap.size w (set2 w1 w.heap.size a b) from FIN) _ (b2)
      obtain ⟨⟨c0, c1⟩, f0, f1⟩ := blk2 kx
      have HFH : Hid (∀ a b, Below w.heap.size w (set2 w3 w.heap.size a b)) := HF
      clear HF FIN

      go_wp2
      refine bodyPost_ret (results_struct_tmp rfl _ _ w.heap.size _ rfl (load_val (blk_set2 kx _ _))) rfl ?_
      exact ⟨rfl, HFH _ _⟩

  have e3 : (kind == 3) = false := by simpa using h3

  have bA : Below W.heap.size W (W.alloc (.cells #[.string ⟨#[98, 108, 97, 99, 107]⟩, .string ⟨#[119, 104, 105, 116, 101]⟩, .string ⟨#[114, 101, 100]⟩, .string ⟨#[103, 114, 101, 101, 110]⟩, .string ⟨#[98, 108, 117, 101]⟩] 9)) := (Below.refl _ _).alloc (Nat.le_refl _) _
  have hk : Calls Tryd.prog 28 #[.agg #[.int .i64 kind, .string text, .int .i64 n, .bool wh, .int .i64 c], .slice (some ⟨W.heap.size, 0, none⟩) 5 5] (W.alloc (.cells #[.string ⟨#[98, 108, 97, 99, 107]⟩, .string ⟨#[119, 104, 105, 116, 101]⟩, .string ⟨#[114, 101, 100]⟩, .string ⟨#[103, 114, 101, 101, 110]⟩, .string ⟨#[98, 108, 117, 101]⟩] 9)) fun e w' => e = ret (keyV kind low colT) ∧ Below (W.alloc (.cells #[.string ⟨#[98, 108, 97, 99, 107]⟩, .string ⟨#[119, 104, 105, 116, 101]⟩, .string ⟨#[114, 101, 100]⟩, .string ⟨#[103, 114, 101, 101, 110]⟩, .string ⟨#[98, 108, 117, 101]⟩] 9)).heap.size (W.alloc (.cells #[.string ⟨#[98, 108, 97, 99, 107]⟩, .string ⟨#[119, 104, 105, 116, 101]⟩, .string ⟨#[114, 101, 100]⟩, .string ⟨#[103, 114, 101, 101, 110]⟩, .string ⟨#[98, 108, 117, 101]⟩] 9)) w' := by
    rw [← hlw]
    exact refKey_any ⟨kind, text, n, wh, c⟩ W.heap.size 5 colT _ (StrsIn.new W colT 9) (by rw [World.size_alloc]; omega) (by decide) ht

  unfold keyV at hk
  rw [if_neg h1] at hk
  obtain rfl : no = V := by rw [← hV]; simp [restV, h1, h3]
  clear hV h1 h3
  go_wp2_with fail
  refine hk.mono ?_
  clear hk
  rintro e w3 ⟨rfl, b3⟩
  clear t0 t1 t2 t3 t4

  obtain ⟨kx, HF⟩ := (show ∀ (w1 : World), Below W.heap.size W w1 → Blk w1 w.heap.size 27 [.int .i64 0, .int .i64 0] ∧ ∀ a b, Below w.heap.size w (set2 w1 w.heap.size a b) from FIN) _ (b2.trans ((bA.trans (b3.mono bA.size)).mono b2.size))
  obtain ⟨⟨c0, c1⟩, f0, f1⟩ := blk2 kx
  have hBx := kx.lt
  have HFH : Hid (∀ a b o, Below w.heap.size w ((set2 w3 w.heap.size a b).alloc o)) := fun a b o => (HF a b).alloc (Nat.le_trans (Nat.le_of_lt hBx) (grown_set2 w3 w.heap.size a b).size) _
  clear HF FIN
  unfold ret no
  go_wp2
  refine bodyPost_ret (results_struct_tmp rfl _ _ w.heap.size _ rfl (load_val ((blk_set2 kx _ _).kept (World.grownBy_alloc _ _ none) (by simp)))) rfl ?_
  exact ⟨rfl, HFH _ _ _⟩



end Go.Proofs.YtghjpefkeobfnaaDoor.Vl
