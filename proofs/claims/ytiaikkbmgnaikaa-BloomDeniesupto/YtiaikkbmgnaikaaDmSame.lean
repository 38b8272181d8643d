/- The document's own SameInts, SameStrings, SameNode: yes, where both hold one thing; the laws' own num and alive. -/
import Derived.Test.YtiaikkbmgnaikaaDmGa
namespace Go.Proofs.Ytiaikkbmgnaikaa.Dm
open Go Go.RowKit

set_option maxRecDepth 100000 in
set_option maxHeartbeats 1000000 in
theorem sameInts_yes (v v' : Value) (l : List Int) (w : World) (hv : IntsAt w.heap.size w v l) (hv' : IntsAt w.heap.size w v' l) :
    Calls Try.prog 7 #[v, v'] w fun e w' => e = .returned (.bool true) ∧ ∃ n, w' = w.drewN n := by
  have hl := hv.short
  obtain ⟨p, cap, rfl⟩ := hv.len
  obtain ⟨p', cap', rfl⟩ := hv'.len
  go_enter Try.func7, Try.ntmps7
  go_wp2
  go_loopw [5] (fun i wr => ∃ k n : Nat, i = .int .i64 k ∧ k ≤ l.length ∧ wr = w.drewN n) (fun i _ => l.length - (intOf i).toNat)
  case atStart => exact ⟨0, 0, rfl, Nat.zero_le _, rfl⟩
  case round =>
    obtain ⟨k, n, rfl, hk, rfl⟩ := hrel
    by_cases hlt : k < l.length
    · obtain ⟨bk, off, rfl, _, _, _, ha⟩ := hv.get (List.getElem?_eq_getElem hlt)
      obtain ⟨bk', off', rfl, _, _, _, hb⟩ := hv'.get (List.getElem?_eq_getElem hlt)
      have a0 := ha 0 _ rfl
      have b0 := hb 0 _ rfl
      simp only [Nat.mul_one, Nat.add_zero] at a0 b0
      clear hv hv' ha hb
      generalize l[k] = t at *
      have hki : (k : Int) < (l.length : Int) := by omega
      go_wp2
      go_quiet (fail)
      go_wp2
      exact ⟨⟨k + 1, _, by go_num, by omega, rfl⟩, by simp [intOf]; omega⟩
    · have hki : ¬ (k : Int) < (l.length : Int) := by omega
      go_wp2
      go_ret
      exact ⟨rfl, n, rfl⟩


theorem refLow_any (w : World) (s : ByteArray) (hs : s.size ≤ 281474976710656) :
    Calls Try.prog 36 #[.string s] w fun e w' => e = .returned (.string (lowS s)) ∧ Below w.heap.size w w' := Lw.refLower_any s w (by unfold maxLen; omega)

end Go.Proofs.Ytiaikkbmgnaikaa.Dm
