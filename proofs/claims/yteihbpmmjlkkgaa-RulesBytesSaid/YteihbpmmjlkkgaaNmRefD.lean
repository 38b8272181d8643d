/- The document's own Num at every string of no bytes: it is what num.Of tells. -/
import Derived.Test.YteihbpmmjlkkgaaNmSt
namespace Go.Proofs.Yteihbpmmjlkkgaa.Nm
open Go Go.RowKit

set_option maxRecDepth 100000 in
set_option maxHeartbeats 4000000 in
theorem refNum_none (s : ByteArray) (w : World) (_hs : s.size ≤ 4000000) (hr : s.data.toList = []) :
    Calls Try.prog 40 #[.string s] w fun e w' => e = .returned (.tuple #[.int .i64 (numN s.data.toList), .bool (numOk s.data.toList)]) ∧ w' = w := by
  have hbel : below s.data.toList = false := by rw [hr]; rfl
  have hbare : bare s.data.toList = s.data.toList.drop 0 := by rw [hr]; rfl
  have ho : 0 ≤ s.size := Nat.zero_le _
  have hz : s.size = 0 := by rw [← len_list, hr]; rfl
  have hzi : (s.size : Int) = 0 := by omega
  clear hr
  generalize hv : numN s.data.toList = v
  generalize hok : numOk s.data.toList = ok
  go_enter Try.func40, Try.ntmps40
  go_wp2
  go_loopw [4, 6, 7] (fun i n hh wr => ∃ (k : Nat) (x : Int) (h : Nat) (t : List UInt8), i = .int .i64 k ∧ n = .int .i64 x ∧ hh = .int .i64 h ∧ St1 s 0 k x h t ∧ wr = w) (fun i _ _ _ => s.size - (intOf i).toNat)
  case atStart => exact ⟨0, 0, 0, s.data.toList.drop 0, rfl, rfl, rfl, St1.start s 0, rfl⟩
  case round =>
    obtain ⟨k, x, h, t, rfl, rfl, rfl, S, rfl⟩ := hrel
    obtain ⟨x0, x1⟩ := S.bounds
    cases t with
    | nil =>
      have hke := S.nil ho
      have hki : (k : Int) = (s.size : Int) := by omega
      by_cases hh0 : h = 0
      · subst hh0
        have hno := S.none hbare
        have hv0 : numN s.data.toList = 0 := by simp [numN, hno]
        rw [hok] at hno
        rw [hv] at hv0
        subst hno hv0
        clear hok hv hbare hbel S
        go_wp2
        go_ret2
        exact ⟨rfl, rfl⟩
      · have hhi : ¬ (h : Int) = 0 := by omega
        obtain ⟨y1, y2⟩ := S.some hbare hh0
        rw [hbel] at y2
        simp only [Bool.false_eq_true, if_false] at y2
        rw [hok] at y1
        rw [hv] at y2
        have hcap := refCap_any (x * 1000)
        rw [← y2] at hcap
        subst y1
        clear hok hv y2 hbare hbel S
        go_wp2_with fail
        refine (hcap _).mono ?_
        rintro e w' ⟨rfl, rfl⟩
        go_wp2
        go_ret2
        exact ⟨rfl, rfl⟩
    | cons c t =>
      obtain ⟨hlt, _⟩ := S.cons
      omega

end Go.Proofs.Yteihbpmmjlkkgaa.Nm
