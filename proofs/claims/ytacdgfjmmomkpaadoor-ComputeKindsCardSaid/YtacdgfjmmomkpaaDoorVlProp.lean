/- package value: Prop, Name, Inherits, Initial, over the table that its text lays. -/
import Derived.Test.YtacdgfjmmomkpaaDoorVlWord
namespace Go.Proofs.YtacdgfjmmomkpaaDoor.Vl
open Go Go.RowKit

def names : List (List UInt8) := propsT.map (·.1)
def pf : Nat → List (List UInt8) → List UInt8 → Int × Bool
  | _, [], _ => (0, false)
  | k, x :: l, s => if x = s then ((k : Int), true) else pf (k + 1) l s
/-- The number of a property's name. -/
def propV (s : List UInt8) : Int × Bool := pf 0 names s
theorem pf_step {k : Nat} {x : List UInt8} {s : List UInt8} (hx : names[k]? = some x) : pf k (names.drop k) s = if x = s then ((k : Int), true) else pf (k + 1) (names.drop (k + 1)) s := by
  obtain ⟨hk, rfl⟩ := List.getElem?_eq_some_iff.1 hx
  rw [List.drop_eq_getElem_cons hk]
  rfl
theorem name_of {k : Nat} {r : List UInt8 × Bool × Int} (h : propsT[k]? = some r) : names[k]? = some r.1 := by
  unfold names
  rw [List.getElem?_map, h]
  rfl

def propAt (p : Int) : List UInt8 × Bool × Int := if 0 ≤ p ∧ p ≤ 7 then propsT.getD p.toNat ([], false, 0) else ([], false, 0)
theorem infoProp : (Tryd.prog.info? 45).map (·.size) = some 3 := by kernel_rfl
theorem load_prop {w : World} {g : Nat} {a b c : Value} (h : Blk w g 45 [a, b, c]) : (loadVar 45 ⟨g, 0, none⟩).run Tryd.prog w = .ok (.agg #[a, b, c]) w :=
  run_loadVar_row w g _ 45 #[a, b, c] (0, 0) _ h Tryd.underlying45 rfl infoProp
theorem results_struct {fn : Func} {p : Tmp} {ty : TypeId} (h : fn.results = #[.cell p ty]) (tmps : Array Value) (w : World) (g : Nat) (x : Value)
    (hp : tmps.getD p undef = .pointer (some ⟨g, 0, none⟩)) (hl : (loadVar ty ⟨g, 0, none⟩).run Tryd.prog w = .ok x w) :
    (results fn tmps).run Tryd.prog w = .ok x w := by
  have hp' : tmps[p]?.getD undef = .pointer (some ⟨g, 0, none⟩) := by simpa using hp
  simp [results, h, hp', asAddr, hl]

set_option maxRecDepth 100000 in
set_option maxHeartbeats 1000000 in
theorem of_any (p : Int) (w : World) (hP : PropsAt w.heap.size w) :
    Calls Tryd.prog 23 #[.int .i64 p] w fun e w' => e = .returned (.agg #[.string ⟨(propAt p).1.toArray⟩, .bool (propAt p).2.1, .int .i64 (propAt p).2.2]) ∧ Below w.heap.size w w' := by
  have hip := isProp_any p
  have bz : Below w.heap.size w (w.alloc (.cells #[.string ⟨#[]⟩, .bool false, .int .i64 0] 45)) := (Below.refl _ _).alloc (Nat.le_refl _) _
  have k0 := Blk.new w 45 [.string ⟨#[]⟩, .bool false, .int .i64 0]
  have hc := ((hP.below bz).mono bz.size).cells
  obtain ⟨V, hV⟩ : ∃ V, propAt p = V := ⟨_, rfl⟩
  rw [hV]
  unfold propAt at hV
  go_enter Tryd.func23, Tryd.ntmps23
  go_upto_region 1 with fail
  replace k0 : Blk (w.alloc (.cells #[.string ⟨#[]⟩, .bool false, .int .i64 0] 45)) w.heap.size _ _ := k0
  generalize w.alloc (.cells #[.string ⟨#[]⟩, .bool false, .int .i64 0] 45) = W at *
  obtain ⟨⟨c0, c1, c2⟩, f0, f1, f2⟩ := blk3 k0
  have hB := k0.lt
  have HF : Hid (∀ a b c, Below w.heap.size w (set3 W w.heap.size a b c)) := fun a b c => below_grown bz (grown_set3 W w.heap.size a b c) (by omega) (Nat.le_refl _)
  by_cases hp : 0 ≤ p ∧ p ≤ 7
  · rw [decide_eq_true hp] at hip
    rw [if_pos hp] at hV
    obtain ⟨k, rfl⟩ : ∃ k : Nat, p = k := ⟨p.toNat, by omega⟩
    have hk : k < 8 := by omega
    have hki : (k : Int) < 8 := by omega
    rw [Int.toNat_natCast] at hV
    obtain ⟨r, hr⟩ : ∃ r, propsT[k]? = some r := ⟨_, List.getElem?_eq_getElem (show k < propsT.length from hk)⟩
    obtain rfl : r = V := by rw [← hV, List.getD_eq_getElem?_getD, hr]; rfl
    obtain ⟨x0, x1, x2⟩ := hc k r hr
    obtain ⟨x, b, m⟩ := r
    simp only at x0 x1 x2
    clear hV hr hc hp
    go_wp2_with fail
    refine (hip _).mono ?_
    clear hip
    rintro e w1 ⟨rfl, rfl⟩
    go_wp2
    refine bodyPost_ret (results_struct rfl _ _ w.heap.size _ rfl (load_prop (blk_set3 k0 _ _ _))) rfl ?_
    exact ⟨rfl, HF _ _ _⟩
  · rw [decide_eq_false hp] at hip
    rw [if_neg hp] at hV
    subst hV
    clear hc hp
    go_wp2_with fail
    refine (hip _).mono ?_
    clear hip
    rintro e w1 ⟨rfl, rfl⟩
    go_wp2
    refine bodyPost_ret (results_struct rfl _ _ w.heap.size _ rfl (load_prop (blk_set3 k0 _ _ _))) rfl ?_
    exact ⟨rfl, HF _ _ _⟩
theorem field0 (x : ByteArray) (b : Bool) (m : Int) (w : World) : (Instr.field 45 (.agg #[.string x, .bool b, .int .i64 m]) 0).run Tryd.prog w = .ok (.string x) w := by kernel_rfl
theorem field1 (x : ByteArray) (b : Bool) (m : Int) (w : World) : (Instr.field 45 (.agg #[.string x, .bool b, .int .i64 m]) 1).run Tryd.prog w = .ok (.bool b) w := by kernel_rfl
theorem field2 (x : ByteArray) (b : Bool) (m : Int) (w : World) : (Instr.field 45 (.agg #[.string x, .bool b, .int .i64 m]) 2).run Tryd.prog w = .ok (.int .i64 m) w := by kernel_rfl
set_option maxHeartbeats 400000 in
theorem inherits_any (p : Int) (w : World) (hP : PropsAt w.heap.size w) : Calls Tryd.prog 19 #[.int .i64 p] w fun e w' => e = .returned (.bool (propAt p).2.1) ∧ Below w.heap.size w w' := by
  have h := of_any p w hP
  generalize propAt p = r at *
  go_enter Tryd.func19, Tryd.ntmps19
  go_wp2_with fail
  refine h.mono ?_
  clear h
  rintro e w1 ⟨rfl, b1⟩
  have hf := field1 ⟨r.1.toArray⟩ r.2.1 r.2.2 w1
  go_wp2
  go_ret
  exact ⟨rfl, b1⟩
set_option maxHeartbeats 400000 in
theorem initial_any (p : Int) (w : World) (hP : PropsAt w.heap.size w) : Calls Tryd.prog 15 #[.int .i64 p] w fun e w' => e = .returned (.int .i64 (propAt p).2.2) ∧ Below w.heap.size w w' := by
  have h := of_any p w hP
  generalize propAt p = r at *
  go_enter Tryd.func15, Tryd.ntmps15
  go_wp2_with fail
  refine h.mono ?_
  clear h
  rintro e w1 ⟨rfl, b1⟩
  have hf := field2 ⟨r.1.toArray⟩ r.2.1 r.2.2 w1
  go_wp2
  go_ret
  exact ⟨rfl, b1⟩
theorem inh_eq (p : Int) : (propAt p).2.1 = decide (0 ≤ p ∧ p < 3) := by
  by_cases hp : 0 ≤ p ∧ p ≤ 7
  · obtain rfl | rfl | rfl | rfl | rfl | rfl | rfl | rfl : p = 0 ∨ p = 1 ∨ p = 2 ∨ p = 3 ∨ p = 4 ∨ p = 5 ∨ p = 6 ∨ p = 7 := by omega
    all_goals rfl
  · rw [show propAt p = ([], false, 0) from if_neg hp, decide_eq_false (by omega)]
set_option maxHeartbeats 400000 in
theorem refInherits_any (p : Int) (w : World) : Calls Tryd.prog 22 #[.int .i64 p] w fun e w' => e = .returned (.bool (propAt p).2.1) ∧ w' = w := by
  rw [inh_eq]
  by_cases h0 : 0 ≤ p
  · by_cases h3 : p < 3
    · rw [decide_eq_true ⟨h0, h3⟩]
      go_enter Tryd.func22, Tryd.ntmps22
      go_wp2
      go_ret
      exact ⟨rfl, rfl⟩
    · rw [decide_eq_false (by omega)]
      go_enter Tryd.func22, Tryd.ntmps22
      go_wp2
      go_ret
      exact ⟨rfl, rfl⟩
  · rw [decide_eq_false (by omega)]
    go_enter Tryd.func22, Tryd.ntmps22
    go_wp2
    go_ret
    exact ⟨rfl, rfl⟩
set_option maxHeartbeats 1000000 in
theorem refInitial_any (p : Int) (w : World) : Calls Tryd.prog 16 #[.int .i64 p] w fun e w' => e = .returned (.int .i64 (propAt p).2.2) ∧ w' = w := by
  by_cases hp : 0 ≤ p ∧ p ≤ 7
  · obtain rfl | rfl | rfl | rfl | rfl | rfl | rfl | rfl : p = 0 ∨ p = 1 ∨ p = 2 ∨ p = 3 ∨ p = 4 ∨ p = 5 ∨ p = 6 ∨ p = 7 := by omega
    all_goals
      clear hp
      go_enter Tryd.func16, Tryd.ntmps16
      go_wp2
      go_ret
      exact ⟨rfl, rfl⟩
  · rw [show propAt p = ([], false, 0) from if_neg hp]
    have e1 : (p == 1) = false := by simp; omega
    have e3 : (p == 3) = false := by simp; omega
    have e4 : (p == 4) = false := by simp; omega
    have e6 : (p == 6) = false := by simp; omega
    have e7 : (p == 7) = false := by simp; omega
    clear hp
    go_enter Tryd.func16, Tryd.ntmps16
    go_wp2
    go_ret
    exact ⟨rfl, rfl⟩

end Go.Proofs.YtacdgfjmmomkpaaDoor.Vl
