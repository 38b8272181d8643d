/- Numbers held within the bounds: capI; package num's held, Cap, Add, Times, at every integer. -/
import Derived.Test.YtagbjmocjaaioaaGreatDoorProg
import Derived.Deep.QuietTactic
import Derived.Deep.RegionWith
import Derived.Deep.DeepCutAuto
import Derived.BigQuiet
import Derived.WalkKit
namespace Go.Proofs.YtagbjmocjaaioaaGreatDoor.Nm
open Go Go.RowKit
def capI (n:Int):Int:=if n < -2147483647 then -2147483647 else if 2147483647 < n then 2147483647 else n
theorem capI_low {n:Int} (h:n < -2147483647):capI n = -2147483647:=if_pos h
theorem capI_high {n:Int} (h:2147483647 < n):capI n = 2147483647:=by unfold capI;rw [if_neg (by omega),if_pos h]
theorem capI_in {n:Int} (h1:-2147483647 ≤ n) (h2:n ≤ 2147483647):capI n = n:=by unfold capI;rw [if_neg (by omega),if_neg (by omega)]
theorem capI_ge (n:Int):-2147483647 ≤ capI n:=by unfold capI;split <;> (try split) <;> omega
theorem capI_le (n:Int):capI n ≤ 2147483647:=by unfold capI;split <;> (try split) <;> omega
theorem int_mul_bound {x y:Int} (h1:-2147483647 ≤ x) (h2:x ≤ 2147483647) (h3:-2147483647 ≤ y) (h4:y ≤ 2147483647):-4611686014132420609 ≤ x * y ∧ x * y ≤ 4611686014132420609:=by
 have hx:x.natAbs ≤ 2147483647:=by omega
 have hy:y.natAbs ≤ 2147483647:=by omega
 have:=Nat.mul_le_mul hx hy
 have e:(x * y).natAbs = x.natAbs * y.natAbs:=Int.natAbs_mul x y
 omega
set_option maxHeartbeats 400000 in
theorem held_ii (c:Int) (w:World):Calls Tryz.prog 132 #[.int .i64 c] w fun e w' => e = .returned (.int .i64 (capI c)) ∧ w' = w:=by
 by_cases h1:c < -2147483647
 ·rw [capI_low h1]
  go_enter Tryz.func132,Tryz.ntmps132
  go_wp2
  go_ret
  exact ⟨rfl,rfl⟩
 ·by_cases h2:2147483647 < c
  ·rw [capI_high h2]
   go_enter Tryz.func132,Tryz.ntmps132
   go_wp2
   go_ret
   exact ⟨rfl,rfl⟩
  ·rw [capI_in (by omega) (by omega)]
   go_enter Tryz.func132,Tryz.ntmps132
   go_wp2
   all_goals go_ret
   all_goals first | exact ⟨rfl,rfl⟩ | (rw [show c = -2147483647 by omega];exact ⟨rfl,rfl⟩)
set_option maxHeartbeats 400000 in
theorem held_il (c:Int) (w:World):Calls Tryz.prog 210 #[.int .i64 c] w fun e w' => e = .returned (.int .i64 (capI c)) ∧ w' = w:=by
 by_cases h1:c < -2147483647
 ·rw [capI_low h1]
  go_enter Tryz.func210,Tryz.ntmps210
  go_wp2
  go_ret
  exact ⟨rfl,rfl⟩
 ·by_cases h2:2147483647 < c
  ·rw [capI_high h2]
   go_enter Tryz.func210,Tryz.ntmps210
   go_wp2
   go_ret
   exact ⟨rfl,rfl⟩
  ·rw [capI_in (by omega) (by omega)]
   go_enter Tryz.func210,Tryz.ntmps210
   go_wp2
   all_goals go_ret
   all_goals first | exact ⟨rfl,rfl⟩ | (rw [show c = -2147483647 by omega];exact ⟨rfl,rfl⟩)
set_option maxHeartbeats 400000 in
theorem held_li (c:Int) (w:World):Calls Tryz.prog 211 #[.int .i64 c] w fun e w' => e = .returned (.int .i64 (capI c)) ∧ w' = w:=by
 by_cases h1:c < -2147483647
 ·rw [capI_low h1]
  go_enter Tryz.func211,Tryz.ntmps211
  go_wp2
  go_ret
  exact ⟨rfl,rfl⟩
 ·by_cases h2:2147483647 < c
  ·rw [capI_high h2]
   go_enter Tryz.func211,Tryz.ntmps211
   go_wp2
   go_ret
   exact ⟨rfl,rfl⟩
  ·rw [capI_in (by omega) (by omega)]
   go_enter Tryz.func211,Tryz.ntmps211
   go_wp2
   all_goals go_ret
   all_goals first | exact ⟨rfl,rfl⟩ | (rw [show c = -2147483647 by omega];exact ⟨rfl,rfl⟩)
theorem cap_any (c:Int) (w:World):Calls Tryz.prog 79 #[.int .i64 c] w fun e w' => e = .returned (.int .i64 (capI c)) ∧ w' = w:=by
 have h:=held_ii c w
 go_enter Tryz.func79,Tryz.ntmps79
 go_wp2_with fail
 refine h.mono ?_
 rintro e w' ⟨rfl,rfl⟩
 go_wp2
 go_ret
 exact ⟨rfl,rfl⟩
set_option maxHeartbeats 400000 in
theorem times_any (a b:Int) (w:World):Calls Tryz.prog 168 #[.int .i64 a,.int .i64 b] w fun e w' => e = .returned (.int .i64 (capI ((capI a * capI b).tdiv 1000))) ∧ w' = w:=by
 have ha:=held_li a
 have hb:=held_li b
 have hc:=held_il ((capI a * capI b).tdiv 1000)
 have hm:=int_mul_bound (capI_ge a) (capI_le a) (capI_ge b) (capI_le b)
 generalize capI a = x at *
 generalize capI b = y at *
 obtain ⟨m1,m2⟩:=hm
 go_enter Tryz.func168,Tryz.ntmps168
 go_wp2_with fail
 refine (ha _).mono ?_
 rintro e w' ⟨rfl,rfl⟩
 go_wp2_with fail
 refine (hb _).mono ?_
 rintro e w' ⟨rfl,rfl⟩
 go_wp2_with fail
 refine (hc _).mono ?_
 rintro e w' ⟨rfl,rfl⟩
 go_wp2
 go_ret
 exact ⟨rfl,rfl⟩
end Go.Proofs.YtagbjmocjaaioaaGreatDoor.Nm
