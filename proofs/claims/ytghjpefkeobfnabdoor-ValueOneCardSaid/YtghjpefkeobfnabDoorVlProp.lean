/- package value: Prop, Name, Inherits, Initial, over the table that its text lays. -/
import Derived.Test.YtghjpefkeobfnabDoorVlRead
namespace Go.Proofs.YtghjpefkeobfnabDoor.Vl
open Go Go.RowKit

def names : List (List UInt8) := propsT.map (·.1)
def pf : Nat → List (List UInt8) → List UInt8 → Int × Bool
  | _, [], _ => (0, false)
  | k, x :: l, s => if x = s then ((k : Int), true) else pf (k + 1) l s
/-- The number of a property's name. -/
def propV (s : List UInt8) : Int × Bool := pf 0 names s
theorem pf_step {k : Nat} {x : List UInt8} {s : List UInt8} (hx : names[k]? = some x) : pf k (names.drop k) s = if x = s then ((k : Int), true) else pf (k + 1) (names.drop (k + 1)) s := by
  obtain ⟨hk, rfl⟩ := List.getElem?_eq_some_iff.1 hx
  rw [List.drop_eq_getElem_cons hk]
  rfl
theorem name_of {k : Nat} {r : List UInt8 × Bool × Int} (h : propsT[k]? = some r) : names[k]? = some r.1 := by
  unfold names
  rw [List.getElem?_map, h]
  rfl

set_option maxRecDepth 100000 in
set_option maxHeartbeats 1000000 in
theorem prop_any (s : ByteArray) (w : World) (hP : PropsAt w.heap.size w) :
    Calls Tryd.prog 9 #[.string s] w fun e w' => e = .returned (.tuple #[.int .i64 (propV s.data.toList).1, .bool (propV s.data.toList).2]) ∧ w' = w := by
  have hc := hP.cells
  obtain ⟨V, hV⟩ : ∃ V, propV s.data.toList = V := ⟨_, rfl⟩
  rw [hV]
  unfold propV at hV
  have HC : Hid (∀ (k : Nat) (r : List UInt8 × Bool × Int), propsT[k]? = some r → w.cell? ⟨0, k * 3, none⟩ = some (.string ⟨r.1.toArray⟩) ∧ w.cell? ⟨0, k * 3 + 1, none⟩ = some (.bool r.2.1) ∧ w.cell? ⟨0, k * 3 + 2, none⟩ = some (.int .i64 r.2.2)) := hc
  clear hc
  go_enter Tryd.func9, Tryd.ntmps9
  go_wp2
  go_loopw [5] (fun i wr => ∃ k : Nat, i = .int .i64 k ∧ k ≤ 8 ∧ Hid (pf k (names.drop k) s.data.toList = V) ∧ w = wr) (fun i _ => 8 - (intOf i).toNat)
  case atStart => exact ⟨0, rfl, by omega, hV, rfl⟩
  case round =>
    obtain ⟨k, rfl, hk, HV, rfl⟩ := hrel
    clear hV
    by_cases hlt : k < 8
    · have hki : (k : Int) < 8 := by omega
      obtain ⟨r, hr⟩ : ∃ r, propsT[k]? = some r := ⟨_, List.getElem?_eq_getElem (show k < propsT.length from hlt)⟩
      have hcell := ((show ∀ (k : Nat) (r : List UInt8 × Bool × Int), propsT[k]? = some r → w.cell? ⟨0, k * 3, none⟩ = some (.string ⟨r.1.toArray⟩) ∧ w.cell? ⟨0, k * 3 + 1, none⟩ = some (.bool r.2.1) ∧ w.cell? ⟨0, k * 3 + 2, none⟩ = some (.int .i64 r.2.2) from HC) k r hr).1
      have hst := pf_step (s := s.data.toList) (name_of hr)
      rw [show pf k (names.drop k) s.data.toList = V from HV] at hst
      obtain ⟨x, b, m⟩ := r
      simp only at hcell hst
      have hxe : (⟨x.toArray⟩ : ByteArray) = s ↔ x = s.data.toList := ⟨fun e => by rw [← e], fun e => by rw [e]⟩
      generalize (⟨x.toArray⟩ : ByteArray) = xs at hcell hxe
      clear HV hr HC
      by_cases he : xs = s
      · subst he
        obtain rfl : ((k : Int), true) = V := by rw [hst, if_pos (hxe.1 rfl)]
        clear hst hxe
        go_wp2
        go_ret2
        exact ⟨rfl, rfl⟩
      · have HV' : Hid (pf (k + 1) (names.drop (k + 1)) s.data.toList = V) := by rw [hst, if_neg (fun e => he (hxe.2 e))]; rfl
        have hne := beq_false he
        clear hst hxe
        go_wp2
        exact ⟨⟨k + 1, by go_num, by omega, HV', trivial⟩, by simp [intOf]; omega⟩
    · have hki : ¬ (k : Int) < 8 := by omega
      obtain rfl : k = 8 := by omega
      obtain rfl : ((0 : Int), false) = V := HV
      clear HC
      go_wp2
      go_ret2
      exact ⟨rfl, rfl⟩

def propAt (p : Int) : List UInt8 × Bool × Int := if 0 ≤ p ∧ p ≤ 7 then propsT.getD p.toNat ([], false, 0) else ([], false, 0)

end Go.Proofs.YtghjpefkeobfnabDoor.Vl
