/- The document's SameInts at two slices of the same numbers; bloom.Wants at every selector that is not empty. -/
import Derived.Test.YtiaikkbmgnaikaaBhWant
namespace Go.Proofs.Ytiaikkbmgnaikaa.Bl
open Go Go.RowKit Go.Shelf Wg Sl Go.Proofs.Ytiaikkbmgnaikaa.Tre

theorem drew_add (w : World) (d n : Nat) : (w.drewN d).drewN n = w.drewN (d + n) := by simp [World.drewN, Nat.add_assoc]
set_option maxRecDepth 100000 in
set_option maxHeartbeats 400000 in
theorem sameI_yes (v v' : Value) (l : List Int) (w : World) (h : IntsR w v l) (h' : IntsR w v' l) :
    Calls Try.prog 7 #[v, v'] w fun e w' => e = .returned (.bool true) ∧ Below w.heap.size w w' := by
  obtain ⟨p, c, rfl⟩ := h.len
  obtain ⟨p', c', rfl⟩ := h'.len
  have hmx := h.short
  unfold maxLen at hmx
  have H : Hid (_ ∧ _) := ⟨h, h'⟩
  clear h h'
  go_enter Try.func7, Try.ntmps7
  go_wp2_with fail
  go_loopw [5] (fun x wr => ∃ k d : Nat, x = .int .i64 k ∧ k ≤ l.length ∧ wr = w.drewN d) (fun x _ => l.length - (intOf x).toNat)
  case atStart => exact ⟨0, 0, rfl, Nat.zero_le _, rfl⟩
  case round =>
    obtain ⟨k, d, rfl, hk, hw⟩ := hrel
    have HW : Hid (wr = w.drewN d) := hw
    by_cases hkl : k < l.length
    · have hlt : decide (k < l.length) = true := by simpa using hkl
      obtain ⟨x, hx⟩ : ∃ x, l[k]? = some x := ⟨_, List.getElem?_eq_getElem hkl⟩
      obtain ⟨b, off, rfl, _, _, hc⟩ := H.out.1.get hx
      obtain ⟨b', off', rfl, _, _, hc'⟩ := H.out.2.get hx
      have e1 : wr.cell? ⟨b, off + k, none⟩ = some (.int .i64 x) := by rw [hw]; exact hc
      have e2 : wr.cell? ⟨b', off' + k, none⟩ = some (.int .i64 x) := by rw [hw]; exact hc'
      have hki : (k : Int) < (l.length : Int) := by omega
      have hne : (x != x) = false := by simp
      clear hw hc hc' hx hk
      go_wp2_with fail
      go_quiet (fail)
      go_wp2
      go_roundw
      case rel => exact ⟨k + 1, _, by go_num, by omega, (by rw [HW.out]; exact drew_add w d _)⟩
      case measure => simp [intOf] <;> omega
    · have hlt : decide (k < l.length) = false := by simpa using hkl
      clear hw
      go_wp2
      go_ret
      exact ⟨rfl, by rw [HW.out]; exact Sl.below_drewN w d⟩

set_option maxRecDepth 100000 in
theorem wanted_any (p : Option Addr) (m cap : Nat) (w : World) :
    Calls Try.prog 23 #[.agg #[.slice p m cap]] w fun e w' => e = .returned (.func (.func 33) #[] #[.pointer (some ⟨w.heap.size, 0, none⟩)]) ∧ w' = w.alloc (.cells #[.slice p m cap] 34) := by
  go_enter Try.func23, Try.ntmps23
  go_wp2
  go_ret
  exact ⟨rfl, rfl⟩

end Go.Proofs.Ytiaikkbmgnaikaa.Bl
