/- slices.Clone; what a tree tells of its elements' children and nodes. -/
import Derived.Test.YtgjfapdnobhkcabDmAsk
namespace Go.Proofs.Ytgjfapdnobhkcab.Dm
open Go Go.RowKit

theorem eqInNilStr (d : Nat) (w : World) (p : Option Addr) (n c : Nat) : (Op.equalIn (d + 1) 26 (.slice p n c) (.slice none 0 0)).run Try.prog w = .ok p.isNone w := by
  cases p <;> simp [Op.equalIn, run_underlying Try.underlying26]
theorem eqlNilStr (w : World) (p : Option Addr) (n c : Nat) : (binOp .eql 26 (.slice p n c) (.slice none 0 0)).run Try.prog w = .ok (.bool p.isNone) w := by
  simp only [binOp]
  simp [show Op.equal 26 (.slice p n c) (.slice none 0 0) = Op.equalIn (9999 + 1) 26 (.slice p n c) (.slice none 0 0) from rfl, eqInNilStr 9999 w p n c]
set_option maxRecDepth 100000 in
set_option maxHeartbeats 1000000 in
theorem cloneStr_any (v : Value) (l : List ByteArray) (b : Nat) (w : World) (hv : StrRow b w v l) (hl : l.length * 16 ≤ 140737488355328) :
    Calls Try.prog 67 #[v] w fun x w' => ∃ v', x = .returned v' ∧ StrRow w.heap.size w' v' l ∧ Below w.heap.size w w' := by
  obtain ⟨i0, hi, hz0, hz1, hz2⟩ := info_parts infoStr
  have hsrc := SlAt.src (sz := 1) (f := stCells) (by decide) (fun _ => rfl) (hv.at)
  obtain ⟨p, c, rfl⟩ := owns_form hv
  have he := eqlNilStr w p l.length c
  cases p with
  | none =>
    have hl0 : l = [] := by
      rcases hv.2 with ⟨_, h0⟩ | ⟨g, cap, cur, h0, _⟩
      · exact List.length_eq_zero_iff.1 h0
      · cases h0
    subst hl0
    simp only [List.length_nil] at he ⊢
    go_enter Try.func67, Try.ntmps67
    go_wp2
    go_ret
    exact ⟨_, rfl, World.ownsRow_nil _ _ _ _, Below.refl _ _⟩
  | some ad =>
    rcases hsrc with ⟨h0, _⟩ | ⟨ad', c', h0, hc⟩
    · cases h0
    · cases h0
      have H1 : ∀ u ∈ l.flatMap stCells, u.oneCell' = true := fun u hu => by
        obtain ⟨x, _, hx⟩ := List.mem_flatMap.1 hu
        simp [stCells] at hx
        subst hx; rfl
      have hfl : (l.flatMap stCells).length = l.length * 1 := flat_length (sz := 1) (f := stCells) (fun _ => rfl) l
      have b1 : Below w.heap.size w (w.alloc (.cells #[] 9)) := (Below.refl _ _).alloc (Nat.le_refl _) _
      have r0 : (w.alloc (.cells #[] 9)).ownsRow w.heap.size 9 1 (.slice (some ⟨w.heap.size, 0, none⟩) 0 0) 0 [] := World.ownsRow_made w #[] 0 (Nat.le_refl _) (Nat.zero_le _) (by simp)
      have HC : Hid (∀ j u, (l.flatMap stCells)[j]? = some u → (w.alloc (.cells #[] 9)).cell? (ad.add j) = some u) := fun j u hu => (World.cell?_alloc_lt w (.cells #[] 9) (ad.add j) (World.block_lt_of_cell? w _ (hc j u hu))).trans (hc j u hu)
      have m1 : 0 + l.length ≤ maxLen := by unfold maxLen; omega
      have m2 : (0 + l.length) * 16 ≤ 140737488355328 := by omega
      have hsz : w.heap.size ≤ (w.alloc (.cells #[] 9)).heap.size := b1.size
      clear hc hv
      go_enter Try.func67, Try.ntmps67
      go_wp2_with (at_builtin; refine wpList_append_own _ rfl _ _ 26 rfl w.heap.size 9 i0 (.string ⟨#[]⟩) 1 16 Try.underlying26 hi hz0 hz1 hz2 rfl (by decide) (.slice (some ⟨w.heap.size, 0, none⟩) 0 0) 0 [] rfl r0 ad l.length c (l.flatMap stCells) rfl hfl HC.out H1 m1 m2 hsz ?_; intro v' w' hown' hgrow' hnil')
      go_ret
      refine ⟨v', rfl, ?_, b1.grown hgrow' hsz (fun r e => by cases e; exact Nat.le_refl _)⟩
      unfold StrRow
      rw [Nat.zero_add, List.nil_append, flat_st] at hown'
      exact hown'

theorem eqInNilPair (d : Nat) (w : World) (p : Option Addr) (n c : Nat) : (Op.equalIn (d + 1) 25 (.slice p n c) (.slice none 0 0)).run Try.prog w = .ok p.isNone w := by
  cases p <;> simp [Op.equalIn, run_underlying Try.underlying25]
theorem eqlNilPair (w : World) (p : Option Addr) (n c : Nat) : (binOp .eql 25 (.slice p n c) (.slice none 0 0)).run Try.prog w = .ok (.bool p.isNone) w := by
  simp only [binOp]
  simp [show Op.equal 25 (.slice p n c) (.slice none 0 0) = Op.equalIn (9999 + 1) 25 (.slice p n c) (.slice none 0 0) from rfl, eqInNilPair 9999 w p n c]
set_option maxRecDepth 100000 in
set_option maxHeartbeats 1000000 in
theorem clonePair_any (v : Value) (l : List (ByteArray × ByteArray)) (b : Nat) (w : World) (hv : PairRow b w v l) (hl : l.length * 32 ≤ 140737488355328) :
    Calls Try.prog 68 #[v] w fun x w' => ∃ v', x = .returned v' ∧ PairRow w.heap.size w' v' l ∧ Below w.heap.size w w' := by
  obtain ⟨i0, hi, hz0, hz1, hz2⟩ := info_parts infoPair
  have hsrc := SlAt.src (sz := 2) (f := paCells) (by decide) (fun _ => rfl) (hv.at)
  obtain ⟨p, c, rfl⟩ := owns_form hv
  have he := eqlNilPair w p l.length c
  cases p with
  | none =>
    have hl0 : l = [] := by
      rcases hv.2 with ⟨_, h0⟩ | ⟨g, cap, cur, h0, _⟩
      · exact List.length_eq_zero_iff.1 h0
      · cases h0
    subst hl0
    simp only [List.length_nil] at he ⊢
    go_enter Try.func68, Try.ntmps68
    go_wp2
    go_ret
    exact ⟨_, rfl, World.ownsRow_nil _ _ _ _, Below.refl _ _⟩
  | some ad =>
    rcases hsrc with ⟨h0, _⟩ | ⟨ad', c', h0, hc⟩
    · cases h0
    · cases h0
      have H1 : ∀ u ∈ l.flatMap paCells, u.oneCell' = true := fun u hu => by
        obtain ⟨x, _, hx⟩ := List.mem_flatMap.1 hu
        simp [paCells] at hx
        rcases hx with rfl | rfl <;> rfl
      have hfl : (l.flatMap paCells).length = l.length * 2 := flat_length (sz := 2) (f := paCells) (fun _ => rfl) l
      have b1 : Below w.heap.size w (w.alloc (.cells #[] 24)) := (Below.refl _ _).alloc (Nat.le_refl _) _
      have r0 : (w.alloc (.cells #[] 24)).ownsRow w.heap.size 24 2 (.slice (some ⟨w.heap.size, 0, none⟩) 0 0) 0 [] := World.ownsRow_made w #[] 0 (Nat.le_refl _) (Nat.zero_le _) (by simp)
      have HC : Hid (∀ j u, (l.flatMap paCells)[j]? = some u → (w.alloc (.cells #[] 24)).cell? (ad.add j) = some u) := fun j u hu => (World.cell?_alloc_lt w (.cells #[] 24) (ad.add j) (World.block_lt_of_cell? w _ (hc j u hu))).trans (hc j u hu)
      have m1 : 0 + l.length ≤ maxLen := by unfold maxLen; omega
      have m2 : (0 + l.length) * 32 ≤ 140737488355328 := by omega
      have hsz : w.heap.size ≤ (w.alloc (.cells #[] 24)).heap.size := b1.size
      clear hc hv
      go_enter Try.func68, Try.ntmps68
      go_wp2_with (at_builtin; refine wpList_append_own _ rfl _ _ 25 rfl w.heap.size 24 i0 (.agg #[.string ⟨#[]⟩, .string ⟨#[]⟩]) 2 32 Try.underlying25 hi hz0 hz1 hz2 rfl (by decide) (.slice (some ⟨w.heap.size, 0, none⟩) 0 0) 0 [] rfl r0 ad l.length c (l.flatMap paCells) rfl hfl HC.out H1 m1 m2 hsz ?_; intro v' w' hown' hgrow' hnil')
      go_ret
      refine ⟨v', rfl, ?_, b1.grown hgrow' hsz (fun r e => by cases e; exact Nat.le_refl _)⟩
      unfold PairRow
      rw [Nat.zero_add, List.nil_append] at hown'
      exact hown'

theorem eqInNilInt (d : Nat) (w : World) (p : Option Addr) (n c : Nat) : (Op.equalIn (d + 1) 48 (.slice p n c) (.slice none 0 0)).run Try.prog w = .ok p.isNone w := by
  cases p <;> simp [Op.equalIn, run_underlying Try.underlying48]
theorem eqlNilInt (w : World) (p : Option Addr) (n c : Nat) : (binOp .eql 48 (.slice p n c) (.slice none 0 0)).run Try.prog w = .ok (.bool p.isNone) w := by
  simp only [binOp]
  simp [show Op.equal 48 (.slice p n c) (.slice none 0 0) = Op.equalIn (9999 + 1) 48 (.slice p n c) (.slice none 0 0) from rfl, eqInNilInt 9999 w p n c]
set_option maxRecDepth 100000 in
set_option maxHeartbeats 1000000 in
theorem cloneInt_any (v : Value) (l : List Int) (b : Nat) (w : World) (hv : IntRow b w v l) (hl : l.length * 8 ≤ 140737488355328) :
    Calls Try.prog 97 #[v] w fun x w' => ∃ v', x = .returned v' ∧ IntRow w.heap.size w' v' l ∧ Below w.heap.size w w' := by
  obtain ⟨i0, hi, hz0, hz1, hz2⟩ := info_parts infoInt
  have hsrc := SlAt.src (sz := 1) (f := inCells) (by decide) (fun _ => rfl) (hv.at)
  obtain ⟨p, c, rfl⟩ := owns_form hv
  have he := eqlNilInt w p l.length c
  cases p with
  | none =>
    have hl0 : l = [] := by
      rcases hv.2 with ⟨_, h0⟩ | ⟨g, cap, cur, h0, _⟩
      · exact List.length_eq_zero_iff.1 h0
      · cases h0
    subst hl0
    simp only [List.length_nil] at he ⊢
    go_enter Try.func97, Try.ntmps97
    go_wp2
    go_ret
    exact ⟨_, rfl, World.ownsRow_nil _ _ _ _, Below.refl _ _⟩
  | some ad =>
    rcases hsrc with ⟨h0, _⟩ | ⟨ad', c', h0, hc⟩
    · cases h0
    · cases h0
      have H1 : ∀ u ∈ l.flatMap inCells, u.oneCell' = true := fun u hu => by
        obtain ⟨x, _, hx⟩ := List.mem_flatMap.1 hu
        simp [inCells] at hx
        subst hx; rfl
      have hfl : (l.flatMap inCells).length = l.length * 1 := flat_length (sz := 1) (f := inCells) (fun _ => rfl) l
      have b1 : Below w.heap.size w (w.alloc (.cells #[] 3)) := (Below.refl _ _).alloc (Nat.le_refl _) _
      have r0 : (w.alloc (.cells #[] 3)).ownsRow w.heap.size 3 1 (.slice (some ⟨w.heap.size, 0, none⟩) 0 0) 0 [] := World.ownsRow_made w #[] 0 (Nat.le_refl _) (Nat.zero_le _) (by simp)
      have HC : Hid (∀ j u, (l.flatMap inCells)[j]? = some u → (w.alloc (.cells #[] 3)).cell? (ad.add j) = some u) := fun j u hu => (World.cell?_alloc_lt w (.cells #[] 3) (ad.add j) (World.block_lt_of_cell? w _ (hc j u hu))).trans (hc j u hu)
      have m1 : 0 + l.length ≤ maxLen := by unfold maxLen; omega
      have m2 : (0 + l.length) * 8 ≤ 140737488355328 := by omega
      have hsz : w.heap.size ≤ (w.alloc (.cells #[] 3)).heap.size := b1.size
      clear hc hv
      go_enter Try.func97, Try.ntmps97
      go_wp2_with (at_builtin; refine wpList_append_own _ rfl _ _ 48 rfl w.heap.size 3 i0 (.int .i64 0) 1 8 Try.underlying48 hi hz0 hz1 hz2 rfl (by decide) (.slice (some ⟨w.heap.size, 0, none⟩) 0 0) 0 [] rfl r0 ad l.length c (l.flatMap inCells) rfl hfl HC.out H1 m1 m2 hsz ?_; intro v' w' hown' hgrow' hnil')
      go_ret
      refine ⟨v', rfl, ?_, b1.grown hgrow' hsz (fun r e => by cases e; exact Nat.le_refl _)⟩
      unfold IntRow
      rw [Nat.zero_add, List.nil_append, flat_in] at hown'
      exact hown'

end Go.Proofs.Ytgjfapdnobhkcab.Dm
