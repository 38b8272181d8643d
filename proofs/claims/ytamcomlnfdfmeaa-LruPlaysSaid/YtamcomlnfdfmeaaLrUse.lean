/- A cache of the call's own; the document's SameInts at rows of the same numbers; the law's alive. -/
import Derived.Test.YtamcomlnfdfmeaaLrGet
import Derived.Test.YtamcomlnfdfmeaaLrKeys
import Derived.Test.YtamcomlnfdfmeaaRgn
namespace Go.Proofs.Ytamcomlnfdfmeaa.Lr
open Go Go.RowKit Go.Shelf Sl Bl

theorem NumR.ints {b : Nat} {W : World} {v : Value} {l : List Int} (h : NumR b W v l) : IntsR W v l := by
  rcases h.2 with ⟨rfl, h0⟩ | ⟨g, cap, cur, rfl, hb, hg, h1, h2, h3, h4⟩
  · have : l = [] := List.eq_nil_of_length_eq_zero h0
    subst this
    exact .inl ⟨rfl, _, _, rfl⟩
  · refine .inr ⟨g, 0, cap, rfl, h1, h2, fun j x hx => ?_⟩
    rw [Nat.mul_one] at h4
    have hj : j < l.length := (List.getElem?_eq_some_iff.1 hx).1
    have h5 : (cur.toList.take l.length)[j]? = some (.int .i64 x) := by rw [h4, List.getElem?_map, hx]; rfl
    rw [List.getElem?_take_of_lt hj, Array.getElem?_toList] at h5
    simp [World.cell?, hg, h5]
theorem drew_addL (w : World) (d n : Nat) : (w.drewN d).drewN n = w.drewN (d + n) := by simp [World.drewN, Nat.add_assoc]
theorem below_drewL (w : World) (d : Nat) : Below w.heap.size w (w.drewN d) := ⟨rfl, rfl, rfl, Nat.le_refl _, fun _ _ => rfl⟩
set_option maxRecDepth 100000 in
set_option maxHeartbeats 400000 in
theorem same_yes (v v' : Value) (l : List Int) (w : World) (h : IntsR w v l) (h' : IntsR w v' l) :
    Calls Try.prog 14 #[v, v'] w fun e w' => e = .returned (.bool true) ∧ Below w.heap.size w w' := by
  obtain ⟨p, c, rfl⟩ := h.len
  obtain ⟨p', c', rfl⟩ := h'.len
  have hmx := h.short
  unfold maxLen at hmx
  have H : Hid (_ ∧ _) := ⟨h, h'⟩
  clear h h'
  go_enter Try.func14, Try.ntmps14
  go_wp2_with fail
  go_loopw [5] (fun x wr => ∃ k d : Nat, x = .int .i64 k ∧ k ≤ l.length ∧ wr = w.drewN d) (fun x _ => l.length - (intOf x).toNat)
  case atStart => exact ⟨0, 0, rfl, Nat.zero_le _, rfl⟩
  case round =>
    obtain ⟨k, d, rfl, hk, hw⟩ := hrel
    have HW : Hid (wr = w.drewN d) := hw
    by_cases hkl : k < l.length
    · have hlt : decide (k < l.length) = true := by simpa using hkl
      obtain ⟨x, hx⟩ : ∃ x, l[k]? = some x := ⟨_, List.getElem?_eq_getElem hkl⟩
      obtain ⟨b, off, rfl, _, _, hc⟩ := H.out.1.get hx
      obtain ⟨b', off', rfl, _, _, hc'⟩ := H.out.2.get hx
      have e1 : wr.cell? ⟨b, off + k, none⟩ = some (.int .i64 x) := by rw [hw]; exact hc
      have e2 : wr.cell? ⟨b', off' + k, none⟩ = some (.int .i64 x) := by rw [hw]; exact hc'
      have hki : (k : Int) < (l.length : Int) := by omega
      have hne : (x != x) = false := by simp
      clear hw hc hc' hx hk
      go_wp2_with fail
      go_quiet (fail)
      go_wp2
      go_roundw
      case rel => exact ⟨k + 1, _, by go_num, by omega, (by rw [HW.out]; exact drew_addL w d _)⟩
      case measure => simp [intOf] <;> omega
    · have hlt : decide (k < l.length) = false := by simpa using hkl
      clear hw
      go_wp2
      go_ret
      exact ⟨rfl, by rw [HW.out]; exact below_drewL w d⟩

/-- A cache of the call's own. -/
structure Mine (w : World) (b s : Nat) (l : List En) (X : World) : Prop where
  at_ : LC X b s l
  low : w.heap.size ≤ b
  below : Below w.heap.size w X
section
variable {w X : World} {b s : Nat} {l : List En}
theorem Mine.lt (h : Mine w b s l X) : b < X.heap.size := h.at_.elim fun _ h => h.lt
theorem Mine.good (h : Mine w b s l X) : Good s l := h.at_.elim fun _ h => h.good
theorem Mine.small (h : Mine w b s l X) : s ≤ 1024 := h.at_.elim fun _ h => h.small
theorem Mine.next {Y : World} (h : Mine w b s l X) (hb : Below X.heap.size X Y) : Mine w b s l Y := ⟨h.at_.elim fun v h => ⟨v, h.next hb⟩, h.low, h.below.trans (hb.mono h.below.size)⟩
theorem Mine.put (h : Mine w b s l X) (k x : Int) :
    Calls Try.prog 9 #[.pointer (some ⟨b, 0, none⟩), .int .i64 k, .int .i64 x] X fun e w' => e = .returned (.tuple #[.int .i64 (putR s l k x).1, .bool (putR s l k x).2]) ∧ Mine w b s (putL s l k x) w' := by
  refine Calls.mono (put_any b s l k x X h.at_) ?_
  rintro e w' ⟨he, hl, fr⟩
  exact ⟨he, hl, h.low, h.below.trans (fr.below h.below.size (fun r e => by rw [e]; exact h.low))⟩
theorem Mine.putF (h : Mine w b s l X) (k x : Int) :
    Calls Try.prog 9 #[.pointer (some ⟨b, 0, none⟩), .int .i64 k, .int .i64 x] X fun e w' => e = .returned (.tuple #[.int .i64 (putR s l k x).1, .bool (putR s l k x).2]) ∧ Mine w b s (putL s l k x) w' ∧ Fr (fun r => r = b) (fun r => r = b) X w' := by
  refine Calls.mono (put_any b s l k x X h.at_) ?_
  rintro e w' ⟨he, hl, fr⟩
  exact ⟨he, ⟨hl, h.low, h.below.trans (fr.below h.below.size (fun r e => by rw [e]; exact h.low))⟩, fr⟩
theorem Mine.getF (h : Mine w b s l X) (k : Int) :
    Calls Try.prog 11 #[.pointer (some ⟨b, 0, none⟩), .int .i64 k] X fun e w' => e = .returned (.tuple #[.int .i64 (getR l k).1, .bool (getR l k).2]) ∧ Mine w b s (getL l k) w' ∧ Fr (fun r => r = b) (fun r => r = b) X w' := by
  refine Calls.mono (get_any b s l k X h.at_) ?_
  rintro e w' ⟨he, hl, fr⟩
  exact ⟨he, ⟨hl, h.low, h.below.trans (fr.below h.below.size (fun r e => by rw [e]; exact h.low))⟩, fr⟩
theorem Mine.get (h : Mine w b s l X) (k : Int) :
    Calls Try.prog 11 #[.pointer (some ⟨b, 0, none⟩), .int .i64 k] X fun e w' => e = .returned (.tuple #[.int .i64 (getR l k).1, .bool (getR l k).2]) ∧ Mine w b s (getL l k) w' := by
  refine Calls.mono (get_any b s l k X h.at_) ?_
  rintro e w' ⟨he, hl, fr⟩
  exact ⟨he, hl, h.low, h.below.trans (fr.below h.below.size (fun r e => by rw [e]; exact h.low))⟩
theorem Mine.keys (h : Mine w b s l X) :
    Calls Try.prog 13 #[.pointer (some ⟨b, 0, none⟩)] X fun e w' => ∃ v', e = .returned v' ∧ NumR X.heap.size w' v' (keysV l) ∧ Mine w b s l w' := by
  refine Calls.mono (keys_any b s l X h.at_) ?_
  rintro e w' ⟨v', he, hl, hb⟩
  exact ⟨v', he, hl, h.next hb⟩
end
theorem Mine.new (n : Int) (w X : World) (hb : Below w.heap.size w X) : Mine w X.heap.size (cutV n) [] (X.alloc (.cells #[.int .i64 (cutV n), .slice none 0 0] 44)) :=
  ⟨⟨_, LV.new n X⟩, hb.size, hb.alloc hb.size _⟩

set_option maxRecDepth 100000 in
set_option maxHeartbeats 400000 in
theorem alive_any (w : World) : Calls Try.prog 6 #[] w fun e w' => e = .returned (.bool true) ∧ Below w.heap.size w w' := by
  have hn := new_any 1 w
  go_enter Try.func6, Try.ntmps6
  go_wp2_with fail
  go_at_call 7
  refine Calls.mono hn ?_
  clear hn
  rintro e w1 ⟨rfl, hw1⟩
  have M1 : Mine w w.heap.size (cutV 1) [] w1 := by rw [hw1]; exact Mine.new 1 w w (Below.refl _ _)
  have hp := M1.put 1 5
  clear hw1 M1
  go_wp2_with fail
  go_at_call 9
  refine Calls.mono hp ?_
  clear hp
  rintro e w2 ⟨rfl, M2⟩
  rw [show putL (cutV 1) [] 1 5 = [(1, 5)] from by decide] at M2
  have hp := M2.put 2 6
  rw [show putR (cutV 1) [(1, 5)] 2 6 = (1, true) from by decide] at hp
  clear M2
  go_wp2_with fail
  go_at_call 9
  refine Calls.mono hp ?_
  clear hp
  rintro e w3 ⟨rfl, M3⟩
  go_wp2
  go_ret
  exact ⟨rfl, M3.below⟩

end Go.Proofs.Ytamcomlnfdfmeaa.Lr
