/- The document's own Cap and Times, as the document's styles ask for them. -/
import Derived.Test.YtacdgfjmmomkpaaDoorCpRoot
namespace Go.Proofs.YtacdgfjmmomkpaaDoor.Cp
open Go Go.RowKit Vl Nm

theorem ini_0 : iniV 0 = 0 := by kernel_rfl
theorem inh_0 : inhV 0 = true := by kernel_rfl
theorem ini_1 : iniV 1 = 16000 := by kernel_rfl
theorem inh_1 : inhV 1 = true := by kernel_rfl
theorem ini_2 : iniV 2 = 0 := by kernel_rfl
theorem inh_2 : inhV 2 = true := by kernel_rfl
theorem ini_3 : iniV 3 = 2 := by kernel_rfl
theorem inh_3 : inhV 3 = false := by kernel_rfl
theorem ini_4 : iniV 4 = -1 := by kernel_rfl
theorem inh_4 : inhV 4 = false := by kernel_rfl
theorem ini_5 : iniV 5 = 0 := by kernel_rfl
theorem inh_5 : inhV 5 = false := by kernel_rfl
theorem ini_6 : iniV 6 = 1000 := by kernel_rfl
theorem inh_6 : inhV 6 = false := by kernel_rfl
theorem ini_7 : iniV 7 = 1099511627776 := by kernel_rfl
theorem inh_7 : inhV 7 = false := by kernel_rfl

set_option maxHeartbeats 400000 in
theorem refCapC (c : Int) (w : World) : Calls Tryd.prog 20 #[.int .i64 c] w fun e w' => e = .returned (.int .i64 (capI c)) ∧ w' = w := by
  by_cases h1 : c < -2147483647
  · rw [capI_low h1]
    go_enter Tryd.func20, Tryd.ntmps20
    go_wp2
    go_ret
    exact ⟨rfl, rfl⟩
  · by_cases h2 : 2147483647 < c
    · rw [capI_high h2]
      go_enter Tryd.func20, Tryd.ntmps20
      go_wp2
      go_ret
      exact ⟨rfl, rfl⟩
    · rw [capI_in (by omega) (by omega)]
      go_enter Tryd.func20, Tryd.ntmps20
      go_wp2
      all_goals go_ret
      all_goals first | exact ⟨rfl, rfl⟩ | (rw [show c = -2147483647 by omega]; exact ⟨rfl, rfl⟩)
set_option maxHeartbeats 400000 in
theorem refTimesC (a b : Int) (w : World) : Calls Tryd.prog 21 #[.int .i64 a, .int .i64 b] w fun e w' => e = .returned (.int .i64 (timesV a b)) ∧ w' = w := by
  unfold timesV
  have ha := refCapC a
  have hb := refCapC b
  have hc := refCapC ((capI a * capI b).tdiv 1000)
  have hm := int_mul_bound (capI_ge a) (capI_le a) (capI_ge b) (capI_le b)
  generalize capI a = x at *
  generalize capI b = y at *
  obtain ⟨m1, m2⟩ := hm
  go_enter Tryd.func21, Tryd.ntmps21
  go_wp2_with fail
  refine (ha _).mono ?_
  rintro e w' ⟨rfl, rfl⟩
  go_wp2_with fail
  refine (hb _).mono ?_
  rintro e w' ⟨rfl, rfl⟩
  go_wp2_with fail
  refine (hc _).mono ?_
  rintro e w' ⟨rfl, rfl⟩
  go_wp2
  go_ret
  exact ⟨rfl, rfl⟩

end Go.Proofs.YtacdgfjmmomkpaaDoor.Cp
