/- The document's own Value, at every property and every slice of tokens: what package value's Parse answers. -/
import Derived.Test.YtghjpefkeobfnaaDoorVlRv0
import Derived.Test.YtghjpefkeobfnaaDoorVlRvA
import Derived.Test.YtghjpefkeobfnaaDoorVlRvB
import Derived.Test.YtghjpefkeobfnaaDoorVlRvC
namespace Go.Proofs.YtghjpefkeobfnaaDoor.Vl
open Go Go.RowKit

set_option maxRecDepth 100000 in
set_option maxHeartbeats 2000000 in
theorem refValue_any (p : Int) (v : Value) (ts : List Bt) (w : World) (hv : BtsAt w.heap.size w v ts) (ht : ∀ t ∈ ts, t.text.size ≤ maxLen) :
    Calls Tryd.prog 11 #[.int .i64 p, v] w fun e w' => e = ret (parseV p ts) ∧ Below w.heap.size w w' := by
  have hl := hv.short
  obtain ⟨q, cap, rfl⟩ := hv.len
  by_cases hp : 0 ≤ p ∧ p < 8
  · by_cases h1 : ts.length = 1
    · obtain ⟨t, rfl⟩ := List.length_eq_one_iff.1 h1
      obtain ⟨bk, off, rfl, hbk, _, _, hat⟩ := hv.get (k := 0) (t := t) rfl
      rw [Nat.zero_mul, Nat.add_zero] at hat
      have h2 := ht t (List.mem_singleton_self t)
      rw [parseV, if_pos (by omega), tokV, ← refV_eq p hp]
      obtain rfl | rfl | rfl | rfl | rfl | rfl | rfl | rfl : p = 0 ∨ p = 1 ∨ p = 2 ∨ p = 3 ∨ p = 4 ∨ p = 5 ∨ p = 6 ∨ p = 7 := by omega
      · exact refValue_0 t bk off cap w hbk hat h2
      · exact refValue_1 t bk off cap w hbk hat h2
      · exact refValue_2 t bk off cap w hbk hat h2
      · exact refValue_3 t bk off cap w hbk hat h2
      · exact refValue_4 t bk off cap w hbk hat h2
      · exact refValue_5 t bk off cap w hbk hat h2
      · exact refValue_6 t bk off cap w hbk hat h2
      · exact refValue_7 t bk off cap w hbk hat h2
    · have hn1 : ((ts.length : Int) != 1) = true := by simp; omega
      have i1 : ¬ p < 0 := by omega
      have i2 : ¬ 8 ≤ p := by omega
      rw [show parseV p ts = no by
        match ts, h1 with
        | [], _ => rfl
        | [_], h => exact absurd rfl h
        | _ :: _ :: _, _ => rfl]
      have b0 := zero_new w
      have k0 := Blk.new w 27 [.int .i64 0, .int .i64 0]
      clear hv h1 ht hp
      go_enter Tryd.func11, Tryd.ntmps11
      go_upto_region 1 with fail
      replace k0 : Blk (w.alloc (.cells #[.int .i64 0, .int .i64 0] 27)) w.heap.size _ _ := k0
      generalize w.alloc (.cells #[.int .i64 0, .int .i64 0] 27) = W at *
      obtain ⟨⟨c0, c1⟩, f0, f1⟩ := blk2 k0
      have hB := k0.lt
      have HF : Hid (∀ a b, Below w.heap.size w (set2 W w.heap.size a b)) := fun a b => below_grown b0 (grown_set2 W w.heap.size a b) (by omega) (Nat.le_refl _)
      go_wp2
      refine bodyPost_ret (results_struct_tmp rfl _ _ w.heap.size _ rfl (load_val (blk_set2 k0 _ _))) rfl ?_
      exact ⟨rfl, HF _ _⟩
  · rw [show parseV p ts = no by
      match ts with
      | [] => rfl
      | [_] => rw [parseV, if_neg (by omega)]
      | _ :: _ :: _ => rfl]
    have b0 := zero_new w
    have k0 := Blk.new w 27 [.int .i64 0, .int .i64 0]
    clear hv ht
    by_cases i1 : p < 0
    · clear hp
      go_enter Tryd.func11, Tryd.ntmps11
      go_upto_region 1 with fail
      replace k0 : Blk (w.alloc (.cells #[.int .i64 0, .int .i64 0] 27)) w.heap.size _ _ := k0
      generalize w.alloc (.cells #[.int .i64 0, .int .i64 0] 27) = W at *
      obtain ⟨⟨c0, c1⟩, f0, f1⟩ := blk2 k0
      have hB := k0.lt
      have HF : Hid (∀ a b, Below w.heap.size w (set2 W w.heap.size a b)) := fun a b => below_grown b0 (grown_set2 W w.heap.size a b) (by omega) (Nat.le_refl _)
      go_wp2
      refine bodyPost_ret (results_struct_tmp rfl _ _ w.heap.size _ rfl (load_val (blk_set2 k0 _ _))) rfl ?_
      exact ⟨rfl, HF _ _⟩
    · have i2 : 8 ≤ p := by omega
      clear hp
      go_enter Tryd.func11, Tryd.ntmps11
      go_upto_region 1 with fail
      replace k0 : Blk (w.alloc (.cells #[.int .i64 0, .int .i64 0] 27)) w.heap.size _ _ := k0
      generalize w.alloc (.cells #[.int .i64 0, .int .i64 0] 27) = W at *
      obtain ⟨⟨c0, c1⟩, f0, f1⟩ := blk2 k0
      have hB := k0.lt
      have HF : Hid (∀ a b, Below w.heap.size w (set2 W w.heap.size a b)) := fun a b => below_grown b0 (grown_set2 W w.heap.size a b) (by omega) (Nat.le_refl _)
      go_wp2
      refine bodyPost_ret (results_struct_tmp rfl _ _ w.heap.size _ rfl (load_val (blk_set2 k0 _ _))) rfl ?_
      exact ⟨rfl, HF _ _⟩

end Go.Proofs.YtghjpefkeobfnaaDoor.Vl
