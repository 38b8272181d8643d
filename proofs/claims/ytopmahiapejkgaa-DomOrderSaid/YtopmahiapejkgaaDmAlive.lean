/- The laws' own alive; nodes that a law itself lays. -/
import Derived.Test.YtopmahiapejkgaaDmSame
namespace Go.Proofs.Ytopmahiapejkgaa.Dm
open Go Go.RowKit

/-- A slice of nodes in a block that is known whole. -/
theorem nodes_new {w : World} {B : Nat} {l : List Nv} (hB : Blk w B 31 (l.flatMap nvCells)) (hl : l.length ≤ 1000000) (hc : ∀ n ∈ l, StrsAt w.heap.size w n.cv n.nd.cls) (ha : ∀ n ∈ l, PairsAt w.heap.size w n.av n.nd.ats) :
    NodesAt w.heap.size w (.slice (some ⟨B, 0, none⟩) l.length l.length) l := by
  refine ⟨.inr ⟨B, 0, l.length, rfl, Nat.le_refl _, by unfold maxLen; omega, hB.lt, fun j x hj i u hu => ?_⟩, hc, ha⟩
  have hi : i < 5 := (List.getElem?_eq_some_iff.1 hu).1
  rw [Nat.zero_add, cell_of_block (show w.heap[B]? = _ from hB), List.getElem?_toArray, flat_at (sz := 5) (f := nvCells) (fun _ => rfl) l j x hj i hi]
  exact hu
theorem strs_nil (n₀ : Nat) (w : World) : StrsAt n₀ w (.slice none 0 0) [] := .inl ⟨rfl, .inl rfl⟩
theorem pairs_nil (n₀ : Nat) (w : World) : PairsAt n₀ w (.slice none 0 0) [] := .inl ⟨rfl, .inl rfl⟩
/-- A node that has a parent alone. -/
def bare (p : Int) : Nv := ⟨⟨p, ⟨#[]⟩, ⟨#[]⟩, [], []⟩, .slice none 0 0, .slice none 0 0⟩
theorem bare_ok (p : Int) : NdOk (bare p).nd := ⟨Nat.zero_le _, Nat.zero_le _, fun _ h => (by cases h), fun _ h => (by cases h), Nat.zero_le _, Nat.zero_le _⟩
theorem alive_new : newV ([bare (-1), bare 0].map Nv.nd) = .ok [⟨lowN (bare (-1)).nd, 0, 1, [1]⟩, ⟨lowN (bare 0).nd, 1, 1, []⟩] := by rfl
theorem infoNode : (Try.prog.info? 31).map (fun i => (i.zero, i.size, i.bytes)) = some (some (.agg #[.int .i64 0, .string ⟨#[]⟩, .string ⟨#[]⟩, .slice none 0 0, .slice none 0 0]), 5, 88) := by kernel_rfl

set_option maxRecDepth 100000 in
set_option maxHeartbeats 1000000 in
theorem alive_any (w : World) : Calls Try.prog 5 #[] w fun e w' => e = .returned (.bool true) ∧ Below w.heap.size w w' := by
  have b1 : Below w.heap.size w (w.alloc (.cells #[.int .i64 (-1), .string ⟨#[]⟩, .string ⟨#[]⟩, .slice none 0 0, .slice none 0 0, .int .i64 0, .string ⟨#[]⟩, .string ⟨#[]⟩, .slice none 0 0, .slice none 0 0] 31)) := (Below.refl _ _).alloc (Nat.le_refl _) _
  have k1 : Blk (w.alloc (.cells #[.int .i64 (-1), .string ⟨#[]⟩, .string ⟨#[]⟩, .slice none 0 0, .slice none 0 0, .int .i64 0, .string ⟨#[]⟩, .string ⟨#[]⟩, .slice none 0 0, .slice none 0 0] 31)) w.heap.size 31 ([bare (-1), bare 0].flatMap nvCells) := Blk.new w 31 ([bare (-1), bare 0].flatMap nvCells)
  go_enter Try.func5, Try.ntmps5
  go_wp2_with fail
  generalize w.alloc (.cells #[.int .i64 (-1), .string ⟨#[]⟩, .string ⟨#[]⟩, .slice none 0 0, .slice none 0 0, .int .i64 0, .string ⟨#[]⟩, .string ⟨#[]⟩, .slice none 0 0, .slice none 0 0] 31) = W1 at *
  have hn := new_any _ [bare (-1), bare 0] W1 (nodes_new k1 (by decide) (fun n h => by
    simp only [List.mem_cons, List.not_mem_nil, or_false] at h
    rcases h with rfl | rfl <;> exact strs_nil _ _) (fun n h => by
    simp only [List.mem_cons, List.not_mem_nil, or_false] at h
    rcases h with rfl | rfl <;> exact pairs_nil _ _)) (fun n h => by
    simp only [List.mem_cons, List.not_mem_nil, or_false] at h
    rcases h with rfl | rfl <;> exact bare_ok _)
  refine hn.mono ?_
  clear hn
  rintro e w2 ⟨hm, b2⟩
  have b12 := below_next b1 b2
  unfold Made at hm
  rw [alive_new] at hm
  rcases hm with ⟨tb, g, cap, qs, hV, rfl, hT⟩ | ⟨x, hV, _⟩
  · have hV' : qs.map Em.e = [⟨lowN (bare (-1)).nd, 0, 1, [1]⟩, ⟨lowN (bare 0).nd, 1, 1, []⟩] := (Except.ok.inj hV).symm
    have hl : qs.length = 2 := by have := congrArg List.length hV'; simpa using this
    have hO : TreeOk (qs.map Em.e) := (newV_ok (l := [bare (-1), bare 0].map Nv.nd) (by rw [hV']; exact alive_new)).1
    have h1 := num_any 0 w2
    have h2 := len_any _ tb g cap qs w2 hT
    have h3 := children_any _ tb g cap qs 0 w2 hT hO (by omega)
    have hch : childrenV (qs.map Em.e) 0 = [1] := by rw [hV']; rfl
    rw [hch] at h3
    rw [hl] at h2
    clear hV hV' hO hT hch k1
    go_wp2_with fail
    refine h1.mono ?_
    clear h1
    rintro e w2' ⟨rfl, rfl⟩
    go_wp2_with fail
    refine h2.mono ?_
    clear h2
    rintro e w2'' ⟨rfl, rfl⟩
    go_wp2_with fail
    refine h3.mono ?_
    clear h3
    rintro e w3 ⟨v', rfl, hv', b3⟩
    have b4 : Below w3.heap.size w3 (w3.alloc (.cells #[.int .i64 1] 3)) := (Below.refl _ _).alloc (Nat.le_refl _) _
    have h4 := sameInts_yes v' (.slice (some ⟨w3.heap.size, 0, none⟩) 1 1) [1] (w3.alloc (.cells #[.int .i64 1] 3)) (hv'.at.next b4)
      (.inr ⟨w3.heap.size, 0, 1, rfl, Nat.le_refl _, by unfold maxLen; omega, by rw [World.size_alloc]; omega, fun j x hj i u hu => by
        have hj0 : j = 0 := by have := (List.getElem?_eq_some_iff.1 hj).1; simpa using this
        have hi0 : i = 0 := by have := (List.getElem?_eq_some_iff.1 hu).1; simpa [inCells] using this
        subst hj0 hi0
        obtain rfl : (1 : Int) = x := by simpa using hj
        rw [cell_of_block (heap_alloc_new w3 _)]
        exact hu⟩)
    have b34 := below_next (below_next b12 b3) b4
    obtain ⟨p, c, rfl⟩ := owns_form hv'
    clear hv'
    go_wp2_with fail
    refine h4.mono ?_
    clear h4
    rintro e w5 ⟨rfl, n5, rfl⟩
    go_wp2
    go_ret
    exact ⟨rfl, below_drewN' b34 n5⟩
  · cases hV

end Go.Proofs.Ytopmahiapejkgaa.Dm
