/- Package lru: New, Len, Put at every cache. -/
import Derived.Test.YtamcomlnfdfmeaaLrLed
namespace Go.Proofs.Ytamcomlnfdfmeaa.Lr
open Go Go.RowKit Go.Shelf Sl
attribute [local go_sem] Oper.semAt_some

/-- The first n of a row. -/
theorem owns_prefix {W : World} {b : Nat} {t : TypeId} {g m c n : Nat} {l : List En} (h : W.ownsRow b t 2 (.slice (some ⟨g, 0, none⟩) m c) m (flat l)) (hm : m = l.length) (hn : n ≤ m) :
    W.ownsRow b t 2 (.slice (some ⟨g, 0, none⟩) n c) n (flat (l.take n)) := by
  refine ⟨by rw [flat_len, List.length_take]; omega, ?_⟩
  rcases h.2 with ⟨h0, _⟩ | ⟨g', cap, cur, e, h1, h2, h3, h4, h5, h6⟩
  · cases h0
  · cases e
    refine .inr ⟨g, c, cur, rfl, h1, h2, by omega, h4, h5, ?_⟩
    rw [flat_take, ← h6, List.take_take]
    congr 1
    omega
theorem owns_some {W : World} {b : Nat} {t : TypeId} {v : Value} {m : Nat} {xs : List Value} (h : W.ownsRow b t 2 v m xs) (hm : 0 < m) : ∃ g c, v = .slice (some ⟨g, 0, none⟩) m c ∧ m ≤ c ∧ c ≤ maxLen ∧ b ≤ g ∧ g < W.heap.size := by
  rcases h.2 with ⟨_, h0⟩ | ⟨g, c, cur, rfl, h1, h2, h3, h4, _⟩
  · omega
  · exact ⟨g, c, rfl, h3, h4, h1, (Array.getElem?_eq_some_iff.1 h2).1⟩
theorem owns_baseL {X : World} {b b' : Nat} {e : TypeId} {size : Nat} {v : Value} {m : Nat} {xs : List Value} (h : X.ownsRow b e size v m xs) (hb : b' ≤ b) : X.ownsRow b' e size v m xs := by
  refine ⟨h.1, ?_⟩
  rcases h.2 with h0 | ⟨g, cap, cur, e1, h1, h2⟩
  · exact .inl h0
  · exact .inr ⟨g, cap, cur, e1, Nat.le_trans hb h1, h2⟩
theorem take_min (l : List En) (s : Nat) : l.take s = l.take (min l.length s) := by
  by_cases h : s ≤ l.length
  · rw [Nat.min_eq_right h]
  · rw [Nat.min_eq_left (by omega), List.take_length, List.take_of_length_le (by omega)]
/-- A size that is cut. -/
def cutV (n : Int) : Nat := min n.toNat 1024

set_option maxRecDepth 100000 in
theorem new_any (n : Int) (w : World) :
    Calls Try.prog 7 #[.int .i64 n] w fun e w' => e = .returned (.pointer (some ⟨w.heap.size, 0, none⟩)) ∧ w' = w.alloc (.cells #[.int .i64 (cutV n), .slice none 0 0] 44) := by
  have hc : min (max n 0) 1024 = (cutV n : Int) := by unfold cutV; omega
  go_enter Try.func7, Try.ntmps7
  go_wp2_with fail
  · go_ret
    exact ⟨rfl, by rw [show (cutV n : Int) = 0 by omega]⟩
  · go_ret
    exact ⟨rfl, by rw [show (cutV n : Int) = 1024 by omega]⟩
  · go_ret
    exact ⟨rfl, by rw [show (cutV n : Int) = n by omega]⟩
theorem LV.new (n : Int) (w : World) : LV (w.alloc (.cells #[.int .i64 (cutV n), .slice none 0 0] 44)) w.heap.size (cutV n) (.slice none 0 0) [] :=
  ⟨World.alloc_heap_new w _, World.ownsRow_nil _ _ _ _, Good.nil _, by unfold cutV; omega⟩

set_option maxRecDepth 100000 in
theorem len_any (b s : Nat) (v : Value) (l : List En) (w : World) (h : LV w b s v l) :
    Calls Try.prog 16 #[.pointer (some ⟨b, 0, none⟩)] w fun e w' => e = .returned (.int .i64 l.length) ∧ w' = w := by
  have hc := count_any b s v l w h
  go_enter Try.func16, Try.ntmps16
  go_wp2_with fail
  go_at_call 21
  refine Calls.mono hc ?_
  clear hc
  rintro e w2 ⟨rfl, rfl⟩
  go_wp2
  go_ret
  exact ⟨rfl, rfl⟩

set_option maxRecDepth 100000 in
set_option maxHeartbeats 1000000 in
theorem rput_any (b s : Nat) (v : Value) (l : List En) (k x : Int) (w : World) (h : LV w b s v l) :
    Calls Try.prog 17 #[.pointer (some ⟨b, 0, none⟩), .int .i64 k, .int .i64 x] w fun e w' => e = .returned (.tuple #[.int .i64 (putR s l k x).1, .bool (putR s l k x).2]) ∧ ∃ v', LV w' b s v' (putL s l k x) ∧ Fr (fun r => r = b) (fun r => r = b) w w' := by
  have hl := led_any b s v l k x w h
  have hn := led_len l k x
  have hfew := h.few
  have hsm := h.small
  have H : Hid (LV w b s v l) := h
  have hbw := h.lt
  clear h
  go_enter Try.func17, Try.ntmps17
  go_wp2_with fail
  go_at_call 22
  refine Calls.mono hl ?_
  clear hl
  rintro e w1 ⟨v1, rfl, hr, hb⟩
  obtain ⟨m, hm⟩ : ∃ m, (ledV l k x).length = m := ⟨_, rfl⟩
  have hm0 : 0 < m := by rw [← hm]; simp [ledV]
  rw [hm] at hr hn
  obtain ⟨g, c, rfl, hmc, hcm, hgw, hg1⟩ := owns_some hr hm0
  have hv1 : LV w1 b s v l := H.out.next hb
  have hg : Good s (putL s l k x) := H.out.good.put k x
  obtain ⟨c0, c1, c2⟩ := hv1.cells
  obtain ⟨w2, hw2⟩ : ∃ w2, w1.setCell ⟨b, 1, none⟩ (.slice (some ⟨g, 0, none⟩) (min m s) c) = w2 := ⟨_, rfl⟩
  have hrow : LE w1 (.slice (some ⟨g, 0, none⟩) (min m s) c) (putL s l k x) := by
    have hr0 : w1.ownsRow 0 56 2 (.slice (some ⟨g, 0, none⟩) m c) m (flat (ledV l k x)) := owns_baseL hr (Nat.zero_le _)
    have := owns_prefix (n := min m s) hr0 hm.symm (by omega)
    unfold LE EntR
    rw [show (putL s l k x).length = min m s by unfold putL; rw [List.length_take, hm]; omega, show putL s l k x = (ledV l k x).take (min m s) by unfold putL; rw [take_min, hm]]
    exact this
  have hv2 : LV w2 b s (.slice (some ⟨g, 0, none⟩) (min m s) c) (putL s l k x) := by rw [← hw2]; exact hv1.set (by decide) hrow hg
  have hfr : Fr (fun r => r = b) (fun r => r = b) w w2 := by
    rw [← hw2]
    exact ((Fr.of_below hb (fun r e => by omega)).names (E := fun r => r = b) (E' := fun r => r = b) (fun _ e => e) (fun r e => ⟨.inl e, by have := hb.size; omega⟩)).grown (setCell_grown _ _ _ _) (fun r e => by cases e; exact .inl rfl)
  have hled : LE w2 (.slice (some ⟨g, 0, none⟩) m c) (ledV l k x) := by
    have hr0 : LE w1 (.slice (some ⟨g, 0, none⟩) m c) (ledV l k x) := by unfold LE EntR; rw [hm]; exact owns_baseL hr (Nat.zero_le _)
    rw [← hw2]
    refine hr0.kept (fun r e => ?_)
    have hne : r ≠ b := by simp [Value.ownBlock] at e; omega
    exact (setCell_grown _ _ _ _).block r (by have := hr0.lt e; omega) (fun e => hne (Option.some.inj e))
  obtain ⟨c3, c4, _⟩ := hv2.cells
  have HF : Hid (_ ∧ _ ∧ _) := ⟨hv2, hfr, hm⟩
  have HL : Hid (LE w2 (.slice (some ⟨g, 0, none⟩) m c) (ledV l k x)) := hled
  clear hv2 hfr hrow hg hv1 hr hb hgw hm hled hbw
  unfold maxLen at hcm
  by_cases hs : s < m
  · have hmin : min m s = s := by omega
    have hI : (s : Int) < m := by omega
    have hgt : decide ((s : Int) < (m : Int)) = true := by simpa using hI
    have hgt2 : decide (s < m) = true := by simpa using hs
    have hsc : (s : Int) ≤ c := by omega
    obtain ⟨e, he⟩ : ∃ e, (ledV l k x)[s]? = some e := ⟨_, List.getElem?_eq_getElem (by have := HF.out.2.2; omega)⟩
    obtain ⟨g', hg', c5, _⟩ := HL.out.get he
    cases hg'
    have hR : Hid (putR s l k x = (e.1, true)) := by show putR s l k x = _; unfold putR; rw [he]
    rw [hmin] at hw2
    clear hn he hmin hm0 hfew hs
    go_wp2_with fail
    go_ret2
    exact ⟨by rw [show putR s l k x = _ from hR.out]; rfl, _, HF.out.1, HF.out.2.1⟩
  · have hmin : min m s = m := by omega
    have hI : (m : Int) ≤ s := by omega
    have hgt : decide ((s : Int) < (m : Int)) = false := by simpa using hI
    have hgt2 : decide (s < m) = false := by simpa using hs
    have hmc' : (m : Int) ≤ c := by omega
    have hR : Hid (putR s l k x = (0, false)) := by
      show putR s l k x = _
      unfold putR
      rw [List.getElem?_eq_none (by have := HF.out.2.2; omega)]
    rw [hmin] at hw2
    clear hn hmin hm0 hfew hs
    go_wp2_with fail
    all_goals
      go_ret2
      exact ⟨by rw [show putR s l k x = _ from hR.out]; rfl, _, HF.out.1, HF.out.2.1⟩

set_option maxRecDepth 100000 in
theorem put_any (b s : Nat) (l : List En) (k x : Int) (w : World) (h : LC w b s l) :
    Calls Try.prog 9 #[.pointer (some ⟨b, 0, none⟩), .int .i64 k, .int .i64 x] w fun e w' => e = .returned (.tuple #[.int .i64 (putR s l k x).1, .bool (putR s l k x).2]) ∧ LC w' b s (putL s l k x) ∧ Fr (fun r => r = b) (fun r => r = b) w w' := by
  obtain ⟨v, hv⟩ := h
  have hp := rput_any b s v l k x w hv
  generalize putR s l k x = R at *
  clear hv
  go_enter Try.func9, Try.ntmps9
  go_wp2_with fail
  go_at_call 17
  refine Calls.mono hp ?_
  clear hp
  rintro e w2 ⟨rfl, v2, h2, f2⟩
  go_wp2
  go_ret2
  exact ⟨rfl, ⟨_, h2⟩, f2⟩

end Go.Proofs.Ytamcomlnfdfmeaa.Lr
