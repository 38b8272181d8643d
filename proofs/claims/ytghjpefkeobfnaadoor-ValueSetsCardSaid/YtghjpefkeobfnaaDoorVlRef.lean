/- The document's own word, hex, color, key, length, at every input. -/
import Derived.Test.YtghjpefkeobfnaaDoorVlRead
namespace Go.Proofs.YtghjpefkeobfnaaDoor.Vl
open Go Go.RowKit

/-- THE SLICE OF STRINGS IN THE BLOCK g HOLDS ss. -/
def StrsIn (W : World) (g : Nat) (ss : List (List UInt8)) : Prop := ∀ j s, ss[j]? = some s → W.cell? ⟨g, 0 + j, none⟩ = some (.string ⟨s.toArray⟩)
theorem StrsIn.below {X Y : World} {g n : Nat} {ss : List (List UInt8)} (h : StrsIn X g ss) (hb : Below n X Y) (hg : g < n) : StrsIn Y g ss := fun j s hj => (hb.cell (p := ⟨g, 0 + j, none⟩) hg).trans (h j s hj)
def strCells (ss : List (List UInt8)) : List Value := ss.map fun s => .string ⟨s.toArray⟩
theorem StrsIn.new (w : World) (ss : List (List UInt8)) (t : TypeId) : StrsIn (w.alloc (.cells (strCells ss).toArray t)) w.heap.size ss := fun j s hj => by
  rw [cell_of_block (heap_alloc_new w _), Nat.zero_add, List.getElem?_toArray, strCells, List.getElem?_map, hj]
  rfl
def idxV (l : List (List UInt8)) (s : List UInt8) : Int × Bool := match idx l s with
  | some n => ((n : Int), true)
  | none => (0, false)
theorem idx_lt : ∀ {l : List (List UInt8)} {s : List UInt8} {n : Nat}, idx l s = some n → n < l.length
  | x :: l, s, n, h => by
    unfold idx at h
    split at h
    · cases h; simp
    · obtain ⟨m, hm, rfl⟩ := Option.map_eq_some_iff.1 h
      have := idx_lt hm
      simp
      omega
/-- None of the first k; the rest is asked. -/
def Left (l : List (List UInt8)) (s : List UInt8) (k : Nat) : Prop := idx l s = (idx (l.drop k) s).map (· + k)
theorem Left.start (l : List (List UInt8)) (s : List UInt8) : Left l s 0 := by
  unfold Left
  cases h : idx l s <;> simp [h]
theorem Left.next {l : List (List UInt8)} {s x : List UInt8} {k : Nat} (h : Left l s k) (hx : l[k]? = some x) (hne : ¬ x = s) : Left l s (k + 1) := by
  obtain ⟨hk, rfl⟩ := List.getElem?_eq_some_iff.1 hx
  unfold Left at *
  rw [h, List.drop_eq_getElem_cons hk, idx, if_neg hne, Option.map_map]
  congr 1
  funext n
  simp
  omega
theorem Left.hit {l : List (List UInt8)} {s x : List UInt8} {k : Nat} (h : Left l s k) (hx : l[k]? = some x) (he : x = s) : idxV l s = ((k : Int), true) := by
  obtain ⟨hk, rfl⟩ := List.getElem?_eq_some_iff.1 hx
  unfold Left at h
  unfold idxV
  rw [h, List.drop_eq_getElem_cons hk, idx, if_pos he]
  simp
theorem Left.none {l : List (List UInt8)} {s : List UInt8} {k : Nat} (h : Left l s k) (hk : l.length ≤ k) : idxV l s = (0, false) := by
  unfold Left at h
  rw [List.drop_eq_nil_of_le hk] at h
  unfold idxV
  rw [h]
  rfl

set_option maxRecDepth 100000 in
set_option maxHeartbeats 1000000 in
theorem refWord_any (s : ByteArray) (g cap : Nat) (ss : List (List UInt8)) (w : World) (hS : StrsIn w g ss) (_hl : ss.length ≤ 100) :
    Calls Tryd.prog 26 #[.string s, .slice (some ⟨g, 0, none⟩) ss.length cap] w fun e w' => e = .returned (.tuple #[.int .i64 (idxV ss s.data.toList).1, .bool (idxV ss s.data.toList).2]) ∧ w' = w := by
  obtain ⟨V, hV⟩ : ∃ V, idxV ss s.data.toList = V := ⟨_, rfl⟩
  rw [hV]
  go_enter Tryd.func26, Tryd.ntmps26
  go_wp2
  go_loopw [6] (fun i wr => ∃ k : Nat, i = .int .i64 k ∧ k ≤ ss.length ∧ Hid (Left ss s.data.toList k) ∧ w = wr) (fun i _ => ss.length - (intOf i).toNat)
  case atStart => exact ⟨0, rfl, Nat.zero_le _, Left.start _ _, rfl⟩
  case round =>
    obtain ⟨k, rfl, hk, HL, rfl⟩ := hrel
    by_cases hlt : k < ss.length
    · have hki : (k : Int) < (ss.length : Int) := by omega
      obtain ⟨x, hx⟩ : ∃ x, ss[k]? = some x := ⟨_, List.getElem?_eq_getElem hlt⟩
      have hc := hS k x hx
      rw [Nat.zero_add] at hc
      have hxe : (⟨x.toArray⟩ : ByteArray) = s ↔ x = s.data.toList := ⟨fun e => by rw [← e], fun e => by rw [e]⟩
      generalize (⟨x.toArray⟩ : ByteArray) = xs at hc hxe
      by_cases he : xs = s
      · subst he
        obtain rfl : ((k : Int), true) = V := by rw [← hV]; exact (Left.hit HL hx (hxe.1 rfl)).symm
        clear hV hS hx hxe HL
        go_wp2
        go_ret2
        exact ⟨rfl, rfl⟩
      · have HL' : Hid (Left ss s.data.toList (k + 1)) := Left.next HL hx (fun e => he (hxe.2 e))
        have hne := beq_false he
        clear hV hx hxe HL hS
        go_wp2
        exact ⟨⟨k + 1, by go_num, by omega, HL', trivial⟩, by simp [intOf]; omega⟩
    · have hki : ¬ (k : Int) < (ss.length : Int) := by omega
      obtain rfl : ((0 : Int), false) = V := by rw [← hV]; exact (Left.none HL (by omega)).symm
      clear hV HL hS
      go_wp2
      go_ret2
      exact ⟨rfl, rfl⟩

def hexV (c : UInt8) : Int := if (digV c).2 then (digV c).1 else -1
set_option maxHeartbeats 1000000 in
theorem hex_any (c : UInt8) (w : World) : Calls Tryd.prog 37 #[.int .i64 c.toNat] w fun e w' => e = .returned (.int .i64 (hexV c)) ∧ w' = w := by
  have hc := c.toNat_lt
  obtain ⟨V, hV⟩ : ∃ V, hexV c = V := ⟨_, rfl⟩
  rw [hV]
  unfold hexV digV at hV
  generalize c.toNat = n at *
  by_cases g1 : 48 ≤ n ∧ n ≤ 57
  · obtain rfl : (n : Int) - 48 = V := by rw [← hV, if_pos g1]; rfl
    have i1 : (48 : Int) ≤ n := by omega
    have i2 : (n : Int) ≤ 57 := by omega
    have e2 : IntKind.i64.wrap ((n : Int) - 48) = (n : Int) - 48 := by rw [IntKind.wrap_i64]; omega
    clear hV
    go_enter Tryd.func37, Tryd.ntmps37
    go_wp2
    go_ret
    exact ⟨rfl, rfl⟩
  rw [if_neg g1] at hV
  by_cases g2 : 97 ≤ n ∧ n ≤ 102
  · obtain rfl : (n : Int) - 87 = V := by rw [← hV, if_pos g2]; rfl
    have i1 : (48 : Int) ≤ n := by omega
    have i2 : ¬ (n : Int) ≤ 57 := by omega
    have i3 : (97 : Int) ≤ n := by omega
    have i4 : (n : Int) ≤ 102 := by omega
    have e2 : IntKind.i64.wrap ((n : Int) - 97) = (n : Int) - 97 := by rw [IntKind.wrap_i64]; omega
    have e3 : IntKind.i64.wrap ((n : Int) - 97 + 10) = (n : Int) - 87 := by rw [IntKind.wrap_i64]; omega
    clear hV
    go_enter Tryd.func37, Tryd.ntmps37
    go_wp2
    go_ret
    exact ⟨rfl, rfl⟩
  rw [if_neg g2] at hV
  by_cases g3 : 65 ≤ n ∧ n ≤ 70
  · obtain rfl : (n : Int) - 55 = V := by rw [← hV, if_pos g3]; rfl
    have i1 : (48 : Int) ≤ n := by omega
    have i2 : ¬ (n : Int) ≤ 57 := by omega
    have i3 : ¬ (97 : Int) ≤ n := by omega
    have i4 : (65 : Int) ≤ n := by omega
    have i5 : (n : Int) ≤ 70 := by omega
    have e2 : IntKind.i64.wrap ((n : Int) - 65) = (n : Int) - 65 := by rw [IntKind.wrap_i64]; omega
    have e3 : IntKind.i64.wrap ((n : Int) - 65 + 10) = (n : Int) - 55 := by rw [IntKind.wrap_i64]; omega
    clear hV
    go_enter Tryd.func37, Tryd.ntmps37
    go_wp2
    go_ret
    exact ⟨rfl, rfl⟩
  rw [if_neg g3] at hV
  obtain rfl : (-1 : Int) = V := by rw [← hV]; rfl
  clear hV
  go_enter Tryd.func37, Tryd.ntmps37
  go_wp2
  all_goals first | (go_ret; exact ⟨rfl, rfl⟩) | omega

end Go.Proofs.YtghjpefkeobfnaaDoor.Vl
