/- Of, at every table with fewer than 65536 names: a name that has a number, and one that has none; the laws' own 'alive'. -/
import Derived.Test.YtbgcnmebmbjdjaaAtOf
namespace Go.Proofs.Ytbgcnmebmbjdjaa
open Go Go.RowKit Go.Shelf Go.Maps

theorem add_any (w : World) (tb : Nat) (F : List Nat) (xs : List ByteArray) (x : ByteArray) (hT : Tab w tb F xs) (hx : x ∉ xs) (hxs : x.size ≤ 281474976710656) (hl : xs.length < 65536) :
    Calls Try.prog 15 #[.pointer (some ⟨tb, 0, none⟩), .string x] w fun e w' => e = .returned (.int .i64 xs.length) ∧ Gave w tb F (xs ++ [x]) w' := by
  rcases hT.2.2 with ⟨rfl, rfl, hp⟩ | ⟨g, cap, mb, D, rfl, n1, n2, n3, hp, hr, hown, hh⟩
  · exact add_new w tb x hp hxs
  · exact add_own w tb mb g cap D xs x ⟨hp, hr, hown, hh, n2, by simp [Value.ownBlock, n1], by simp [Value.ownBlock]; exact fun e => n3 e.symm⟩ hx hxs hT.1 hT.2.1 hl

theorem Gave.back {w w1 w' : World} {tb : Nat} {F : List Nat} {xs : List ByteArray} (h : Gave w1 tb F xs w') (hb : Below w.heap.size w w1) : Gave w tb F xs w' := by
  obtain ⟨F', t, hF, k⟩ := h
  exact ⟨F', t, fun b hb' => (hF b hb').imp id (fun e => Nat.le_trans hb.size e), (Kept.of_below hb).trans k⟩

set_option maxRecDepth 100000 in
theorem Of_yes (w : World) (tb : Nat) (F : List Nat) (xs : List ByteArray) (s : ByteArray) (hT : Tab w tb F xs) (hs : s ∈ xs) (hl : xs.length ≤ 65536) :
    Calls Try.prog 7 #[.pointer (some ⟨tb, 0, none⟩), .string s] w fun e w' => e = .returned (.tuple #[.int .i64 (xs.idxOf s), .bool true]) ∧ Below w.heap.size w w' := by
  have hc := find_yes w tb F xs s hT hs hl
  clear hT hs
  go_enter Try.func7, Try.ntmps7
  go_wp2_with fail
  refine hc.mono ?_
  rintro e w' ⟨rfl, hb⟩
  clear hc
  go_wp2
  go_ret2
  exact ⟨rfl, hb⟩

set_option maxRecDepth 100000 in
set_option maxHeartbeats 1000000 in
theorem Of_no (w : World) (tb : Nat) (F : List Nat) (xs : List ByteArray) (s : ByteArray) (hT : Tab w tb F xs) (hs : s ∉ xs) (hz : s.size ≤ 281474976710656) (hl : xs.length < 65536) :
    Calls Try.prog 7 #[.pointer (some ⟨tb, 0, none⟩), .string s] w fun e w' => e = .returned (.tuple #[.int .i64 xs.length, .bool true]) ∧ Gave w tb F (xs ++ [s]) w' := by
  have hc := find_no w tb F xs s hT hs hz (by omega)
  have h1 : decide ((65536 : Int) ≤ (xs.length : Int)) = false := by simp; omega
  go_enter Try.func7, Try.ntmps7
  go_wp2_with fail
  refine hc.mono ?_
  rintro e w1 ⟨rfl, b1⟩
  clear hc
  have t1 := hT.below b1
  have hc := count_any w1 tb F xs t1
  go_wp2_with fail
  refine hc.mono ?_
  rintro e w2 ⟨rfl, b2⟩
  clear hc
  have b12 := b1.trans (b2.mono b1.size)
  have t2 : Tab w2.drew tb F xs := t1.below b2.drew
  have bd : Below w.heap.size w w2.drew := b12.drew
  clear b1 b2 t1 hT b12
  have hc := clone_any w2.drew s hz
  go_upto_region 6 with fail
  go_region_with (first
    | (go_at_call 16; refine hc.mono ?_; rintro e w3 ⟨rfl, b3⟩; have hc2 := (add_any w3 tb F xs s (t2.below b3) hs hz hl).mono (R' := fun e w' => e = .returned (.int .i64 xs.length) ∧ Hid (Gave w tb F (xs ++ [s]) w')) (fun e w' ⟨h1, h2⟩ => ⟨h1, h2.back (bd.trans (b3.mono bd.size))⟩))
    | (go_at_call 15; refine hc2.mono ?_; rintro e w4 ⟨rfl, g4⟩))
  all_goals clear hc hc2 b3 t2 bd h1 hl hz hs
  all_goals simp only [List.getElem_toArray, List.getElem_cons_succ, List.getElem_cons_zero, Act.put, List.setIfInBounds_toArray, List.set_cons_succ, List.set_cons_zero]
  all_goals (go_wp2; go_ret2; exact ⟨rfl, g4⟩)

theorem Gave.lt {w w' : World} {tb B : Nat} {F : List Nat} {xs : List ByteArray} (h : Gave w tb F xs w') (hB : B ≤ w.heap.size) (hF : ∀ b ∈ F, B ≤ b) : ∃ F', Tab w' tb F' xs ∧ (∀ b ∈ F', B ≤ b) ∧ Below B w w' := by
  obtain ⟨F', t, hF', k⟩ := h
  exact ⟨F', t, fun b hb => (hF' b hb).elim (hF b) (fun e => Nat.le_trans hB e), k.below hB (fun b hb h => by have := hF b h; omega)⟩

/-- The two names of the document's example. -/
theorem ne_ab : (⟨#[98]⟩ : ByteArray) ∉ [(⟨#[97]⟩ : ByteArray)] := by
  intro h
  rw [List.mem_singleton] at h
  exact absurd (congrArg (fun b => b.data.toList) h) (by decide)

theorem idx_a : List.idxOf (⟨#[97]⟩ : ByteArray) (([] : List ByteArray) ++ [(⟨#[97]⟩ : ByteArray)] ++ [(⟨#[98]⟩ : ByteArray)]) = 0 := by
  haveI := lawBA
  simp

set_option maxRecDepth 100000 in
set_option maxHeartbeats 1000000 in
theorem alive_any (w : World) :
    Calls Try.prog 6 #[] w fun e w' => e = .returned (.bool true) ∧ Below w.heap.size w w' := by
  have t0 := Tab.new w
  have b0 : Below w.heap.size w (w.alloc (.cells #[.slice none 0 0, .map none] 29)) := (Below.refl _ w).alloc (Nat.le_refl _) _
  have hc := Of_no _ _ _ _ ⟨#[97]⟩ t0 (by simp) (by decide) (by decide)
  go_enter Try.func6, Try.ntmps6
  go_wp2_with fail
  refine hc.mono ?_
  rintro e w1 ⟨rfl, g1⟩
  clear hc
  obtain ⟨F1, t1, hF1, b1⟩ := g1.lt b0.size (fun b hb => by simp at hb; omega)
  have hc := Of_no _ _ _ _ ⟨#[98]⟩ t1 ne_ab (by decide) (by decide)
  go_wp2_with fail
  refine hc.mono ?_
  rintro e w2 ⟨rfl, g2⟩
  clear hc
  obtain ⟨F2, t2, hF2, b2⟩ := g2.lt (b0.trans b1).size hF1
  have hc := Of_yes _ _ _ _ ⟨#[97]⟩ t2 (by simp) (by decide)
  rw [idx_a] at hc
  have b02 := (b0.trans b1).trans b2
  clear t0 t1 t2 g1 g2
  go_wp2_with fail
  refine hc.mono ?_
  rintro e w3 ⟨rfl, b3⟩
  clear hc
  go_wp2
  go_ret
  exact ⟨rfl, b02.trans (b3.mono b02.size)⟩

end Go.Proofs.Ytbgcnmebmbjdjaa
