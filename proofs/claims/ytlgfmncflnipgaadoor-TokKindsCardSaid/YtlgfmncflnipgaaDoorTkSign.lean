/- package tok: the signs' own tokens (kindOf), over the table that its text lays. -/
import Derived.Test.YtlgfmncflnipgaaDoorTkGo
namespace Go.Proofs.YtlgfmncflnipgaaDoor
open Go Go.RowKit

def signPts : List Int := [58, 59, 44, 123, 125, 40, 41, 91, 93]
/-- The table of signs as it lies. -/
def signRow : Array Value := #[.int .i64 58, .int .i64 11, .int .i64 59, .int .i64 12, .int .i64 44, .int .i64 13, .int .i64 123, .int .i64 14, .int .i64 125, .int .i64 15, .int .i64 40, .int .i64 16, .int .i64 41, .int .i64 17, .int .i64 91, .int .i64 18, .int .i64 93, .int .i64 19]
def SignsAt (n₀ : Nat) (W : World) : Prop := 0 < n₀ ∧ ∃ t fr, W.heap[(0 : Nat)]? = some (.cells signRow t fr)
theorem SignsAt.below {n₀ : Nat} {X Y : World} (h : SignsAt n₀ X) (hb : Below n₀ X Y) : SignsAt n₀ Y := ⟨h.1, h.2.elim fun t h2 => h2.elim fun fr h3 => ⟨t, fr, (hb.block _ h.1).trans h3⟩⟩
theorem SignsAt.mono {n₀ n₁ : Nat} {X : World} (h : SignsAt n₀ X) (hn : n₀ ≤ n₁) : SignsAt n₁ X := ⟨Nat.lt_of_lt_of_le h.1 hn, h.2⟩

theorem infoSigns : (Tryd.prog.info? 65).map (·.size) = some 18 := by kernel_rfl

theorem all_next {p q : Int} {k : Nat} (h : (signPts.take k).all (· != p) = true) (hk : signPts[k]? = some q) (hq : q ≠ p) : (signPts.take (k + 1)).all (· != p) = true := by
  rw [List.take_add_one, hk, List.all_append, h]
  simpa using hq
theorem sign_none {p : Int} (h : (signPts.take 9).all (· != p) = true) : sign p = 0 := by
  have h' : (58 : Int) ≠ p ∧ (59 : Int) ≠ p ∧ (44 : Int) ≠ p ∧ (123 : Int) ≠ p ∧ (125 : Int) ≠ p ∧ (40 : Int) ≠ p ∧ (41 : Int) ≠ p ∧ (91 : Int) ≠ p ∧ (93 : Int) ≠ p := by simpa [signPts] using h
  unfold sign
  repeat' split
  all_goals omega
theorem sign_at0 (w : World) : (Instr.index 65 (.agg signRow) (.int .i64 0)).run Tryd.prog w = .ok (.agg #[.int .i64 58, .int .i64 11]) w := by kernel_rfl
theorem sign_at1 (w : World) : (Instr.index 65 (.agg signRow) (.int .i64 1)).run Tryd.prog w = .ok (.agg #[.int .i64 59, .int .i64 12]) w := by kernel_rfl
theorem sign_at2 (w : World) : (Instr.index 65 (.agg signRow) (.int .i64 2)).run Tryd.prog w = .ok (.agg #[.int .i64 44, .int .i64 13]) w := by kernel_rfl
theorem sign_at3 (w : World) : (Instr.index 65 (.agg signRow) (.int .i64 3)).run Tryd.prog w = .ok (.agg #[.int .i64 123, .int .i64 14]) w := by kernel_rfl
theorem sign_at4 (w : World) : (Instr.index 65 (.agg signRow) (.int .i64 4)).run Tryd.prog w = .ok (.agg #[.int .i64 125, .int .i64 15]) w := by kernel_rfl
theorem sign_at5 (w : World) : (Instr.index 65 (.agg signRow) (.int .i64 5)).run Tryd.prog w = .ok (.agg #[.int .i64 40, .int .i64 16]) w := by kernel_rfl
theorem sign_at6 (w : World) : (Instr.index 65 (.agg signRow) (.int .i64 6)).run Tryd.prog w = .ok (.agg #[.int .i64 41, .int .i64 17]) w := by kernel_rfl
theorem sign_at7 (w : World) : (Instr.index 65 (.agg signRow) (.int .i64 7)).run Tryd.prog w = .ok (.agg #[.int .i64 91, .int .i64 18]) w := by kernel_rfl
theorem sign_at8 (w : World) : (Instr.index 65 (.agg signRow) (.int .i64 8)).run Tryd.prog w = .ok (.agg #[.int .i64 93, .int .i64 19]) w := by kernel_rfl

set_option maxRecDepth 100000 in
set_option maxHeartbeats 4000000 in
theorem kindOf_any (p : Int) (w : World) (hS : SignsAt w.heap.size w) :
    Calls Tryd.prog 61 #[.int .i64 p] w fun e w' => e = .returned (.tuple #[.int .i64 (sign p), .bool (decide (0 < sign p))]) ∧ Below w.heap.size w w' := by
  obtain ⟨hlt, t0, fr0, hrow⟩ := hS
  go_enter Tryd.func61, Tryd.ntmps61
  go_upto_region 1 with fail
  refine wp_region_lit ?_
  refine wpList_load_row rfl 65 _ rfl 0 rfl t0 signRow fr0 _ hrow Tryd.underlying65 rfl infoSigns ?_
  clear hrow
  have i0 := sign_at0
  have i1 := sign_at1
  have i2 := sign_at2
  have i3 := sign_at3
  have i4 := sign_at4
  have i5 := sign_at5
  have i6 := sign_at6
  have i7 := sign_at7
  have i8 := sign_at8
  generalize Value.agg signRow = row at *
  go_wp2
  go_loopw [7] (fun i wr => ∃ k : Nat, i = .int .i64 k ∧ k ≤ 9 ∧ (signPts.take k).all (· != p) = true ∧ Below w.heap.size w wr) (fun i _ => 9 - (intOf i).toNat)
  case atStart => exact ⟨0, rfl, by omega, rfl, Below.refl _ _⟩
  case round =>
    obtain ⟨k, rfl, hk, ha, hb⟩ := hrel
    have hsz := hb.size
    obtain rfl | rfl | rfl | rfl | rfl | rfl | rfl | rfl | rfl | rfl : k = 0 ∨ k = 1 ∨ k = 2 ∨ k = 3 ∨ k = 4 ∨ k = 5 ∨ k = 6 ∨ k = 7 ∨ k = 8 ∨ k = 9 := by omega
    · by_cases hp : p = 58
      · subst hp
        go_wp2
        go_ret2
        exact ⟨rfl, hb.alloc hb.size _⟩
      · have hp' : ((58 : Int) == p) = false := by simp; omega
        go_wp2
        exact ⟨⟨1, rfl, by omega, all_next ha rfl (fun e => hp e.symm), hb.alloc hb.size _⟩, by simp [intOf]⟩
    · by_cases hp : p = 59
      · subst hp
        go_wp2
        go_ret2
        exact ⟨rfl, hb.alloc hb.size _⟩
      · have hp' : ((59 : Int) == p) = false := by simp; omega
        go_wp2
        exact ⟨⟨2, rfl, by omega, all_next ha rfl (fun e => hp e.symm), hb.alloc hb.size _⟩, by simp [intOf]⟩
    · by_cases hp : p = 44
      · subst hp
        go_wp2
        go_ret2
        exact ⟨rfl, hb.alloc hb.size _⟩
      · have hp' : ((44 : Int) == p) = false := by simp; omega
        go_wp2
        exact ⟨⟨3, rfl, by omega, all_next ha rfl (fun e => hp e.symm), hb.alloc hb.size _⟩, by simp [intOf]⟩
    · by_cases hp : p = 123
      · subst hp
        go_wp2
        go_ret2
        exact ⟨rfl, hb.alloc hb.size _⟩
      · have hp' : ((123 : Int) == p) = false := by simp; omega
        go_wp2
        exact ⟨⟨4, rfl, by omega, all_next ha rfl (fun e => hp e.symm), hb.alloc hb.size _⟩, by simp [intOf]⟩
    · by_cases hp : p = 125
      · subst hp
        go_wp2
        go_ret2
        exact ⟨rfl, hb.alloc hb.size _⟩
      · have hp' : ((125 : Int) == p) = false := by simp; omega
        go_wp2
        exact ⟨⟨5, rfl, by omega, all_next ha rfl (fun e => hp e.symm), hb.alloc hb.size _⟩, by simp [intOf]⟩
    · by_cases hp : p = 40
      · subst hp
        go_wp2
        go_ret2
        exact ⟨rfl, hb.alloc hb.size _⟩
      · have hp' : ((40 : Int) == p) = false := by simp; omega
        go_wp2
        exact ⟨⟨6, rfl, by omega, all_next ha rfl (fun e => hp e.symm), hb.alloc hb.size _⟩, by simp [intOf]⟩
    · by_cases hp : p = 41
      · subst hp
        go_wp2
        go_ret2
        exact ⟨rfl, hb.alloc hb.size _⟩
      · have hp' : ((41 : Int) == p) = false := by simp; omega
        go_wp2
        exact ⟨⟨7, rfl, by omega, all_next ha rfl (fun e => hp e.symm), hb.alloc hb.size _⟩, by simp [intOf]⟩
    · by_cases hp : p = 91
      · subst hp
        go_wp2
        go_ret2
        exact ⟨rfl, hb.alloc hb.size _⟩
      · have hp' : ((91 : Int) == p) = false := by simp; omega
        go_wp2
        exact ⟨⟨8, rfl, by omega, all_next ha rfl (fun e => hp e.symm), hb.alloc hb.size _⟩, by simp [intOf]⟩
    · by_cases hp : p = 93
      · subst hp
        go_wp2
        go_ret2
        exact ⟨rfl, hb.alloc hb.size _⟩
      · have hp' : ((93 : Int) == p) = false := by simp; omega
        go_wp2
        exact ⟨⟨9, rfl, by omega, all_next ha rfl (fun e => hp e.symm), hb.alloc hb.size _⟩, by simp [intOf]⟩
    · have hs := sign_none ha
      go_wp2
      go_ret2
      rw [hs]
      exact ⟨rfl, hb⟩

end Go.Proofs.YtlgfmncflnipgaaDoor
