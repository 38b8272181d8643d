/- The document's own tree: Node. -/
import Derived.Test.YtopmahiapejkgaaDmRefP
namespace Go.Proofs.Ytopmahiapejkgaa.Dm
open Go Go.RowKit

/-- What the document's Node leaves: the tree's own lists. -/
def RNoded (n : Nd) (w : World) (x : Ending) (w' : World) : Prop := ∃ cv av, x = .returned (ndVal n cv av) ∧ StrsAt w'.heap.size w' cv n.cls ∧ PairsAt w'.heap.size w' av n.ats ∧ Below w.heap.size w w'

set_option maxRecDepth 100000 in
set_option maxHeartbeats 2000000 in
theorem refNode_any (b tb : Nat) (nv dv : Value) (ns : List Nv) (ds : List Int) (es : List El) (e : Int) (w : World) (hT : RTr b w tb nv dv ns ds) (hE : Tells es ns ds) :
    Calls Try.prog 13 #[.pointer (some ⟨tb, 0, none⟩), .int .i64 e] w (RNoded (nodeV es e) w) := by
  have bZ : Below w.heap.size w (w.alloc (.cells #[.int .i64 0, .string ⟨#[]⟩, .string ⟨#[]⟩, .slice none 0 0, .slice none 0 0] 31)) := (Below.refl _ _).alloc (Nat.le_refl _) _
  have kZ : Blk (w.alloc (.cells #[.int .i64 0, .string ⟨#[]⟩, .string ⟨#[]⟩, .slice none 0 0, .slice none 0 0] 31)) w.heap.size 31 [.int .i64 0, .string ⟨#[]⟩, .string ⟨#[]⟩, .slice none 0 0, .slice none 0 0] := Blk.new w 31 [.int .i64 0, .string ⟨#[]⟩, .string ⟨#[]⟩, .slice none 0 0, .slice none 0 0]
  have hTZ := hT.next bZ
  have hh := refIs_any b tb nv dv ns ds e _ hTZ
  have hnl := hE.len.1
  unfold RNoded ndVal
  by_cases hin : 0 ≤ e ∧ e < (ns.length : Int)
  · rw [decide_eq_true hin] at hh
    obtain ⟨k, rfl⟩ : ∃ k : Nat, e = (k : Int) := ⟨e.toNat, by omega⟩
    have hk : k < ns.length := by omega
    obtain ⟨n, hn⟩ : ∃ n, ns[k]? = some n := ⟨_, List.getElem?_eq_getElem hk⟩
    obtain ⟨q, hq, hqn, _⟩ := hE.at hn
    have hV : nodeV es (k : Int) = n.nd := by unfold nodeV; rw [elAt_yes hq, ← hqn]; rfl
    rw [hV]
    have hnm := List.mem_of_getElem? hn
    have hki : (k : Int) < (ns.length : Int) := by omega
    clear hV hin hT hE hq hqn
    go_enter Try.func13, Try.ntmps13
    go_upto_region 1 with fail
    generalize w.alloc (.cells #[.int .i64 0, .string ⟨#[]⟩, .string ⟨#[]⟩, .slice none 0 0, .slice none 0 0] 31) = W1 at *
    go_wp2_with fail
    refine hh.mono ?_
    clear hh
    rintro x W' ⟨rfl, rfl⟩
    obtain ⟨⟨c0, _⟩, _⟩ := blk2 hTZ.blk
    obtain ⟨g, c, rfl, hr1, hr2, x0, x1, x2, x3, x4⟩ := hTZ.get hn
    unfold maxLen at hr2
    have hcls := hTZ.cls n hnm
    have hats := hTZ.ats n hnm
    clear hTZ hn hnm
    obtain ⟨⟨parent, tag, id, cls, ats⟩, cv, av⟩ := n
    simp only at x0 x1 x2 x3 x4 hcls hats
    obtain ⟨pc, cc, rfl⟩ := owns_form hcls
    obtain ⟨pa, ca, rfl⟩ := owns_form hats
    obtain ⟨⟨t0, t1, t2, t3, t4⟩, f0, f1, f2, f3, f4⟩ := blk5 kZ
    have kW := blk_set5 kZ (.int .i64 parent) (.string tag) (.string id) (.slice pc cls.length cc) (.slice pa ats.length ca)
    have gW := grown_set5 W' w.heap.size (.int .i64 parent) (.string tag) (.string id) (.slice pc cls.length cc) (.slice pa ats.length ca)
    have hR9 := (show StrRow b _ (.slice pc cls.length cc) cls from hcls.kept gW (.inr (row_blk (e := 9) (t := 31) (by decide) hcls kZ))).at
    have hP9 := (show PairRow b _ (.slice pa ats.length ca) ats from hats.kept gW (.inr (row_blk (e := 40) (t := 31) (by decide) hats kZ))).at
    have b9 := below_grown bZ gW bZ.size (Nat.le_refl _)
    unfold set5 at kW hR9 hP9 b9
    clear gW hcls hats
    go_wp2
    refine bodyPost_ret (results_struct rfl _ _ _ _ rfl (load_node kW)) rfl ?_
    exact ⟨_, _, rfl, hR9, hP9, b9⟩
  · rw [decide_eq_false hin] at hh
    have hV : nodeV es e = zeroNd := by unfold nodeV; rw [elAt_no (fun h => hin (by rw [← hnl] at h; exact h))]; rfl
    rw [hV]
    unfold zeroNd
    clear hV hin hT hTZ hE
    go_enter Try.func13, Try.ntmps13
    go_upto_region 1 with fail
    generalize w.alloc (.cells #[.int .i64 0, .string ⟨#[]⟩, .string ⟨#[]⟩, .slice none 0 0, .slice none 0 0] 31) = W1 at *
    go_wp2_with fail
    refine hh.mono ?_
    clear hh
    rintro x W' ⟨rfl, rfl⟩
    have kW := blk_set5 kZ (.int .i64 0) (.string ⟨#[]⟩) (.string ⟨#[]⟩) (.slice none 0 0) (.slice none 0 0)
    have gW := grown_set5 W' w.heap.size (.int .i64 0) (.string ⟨#[]⟩) (.string ⟨#[]⟩) (.slice none 0 0) (.slice none 0 0)
    have b9 := below_grown bZ gW bZ.size (Nat.le_refl _)
    obtain ⟨⟨t0, t1, t2, t3, t4⟩, f0, f1, f2, f3, f4⟩ := blk5 kZ
    unfold set5 at kW b9
    clear gW
    go_wp2
    refine bodyPost_ret (results_struct rfl _ _ _ _ rfl (load_node kW)) rfl ?_
    exact ⟨_, _, rfl, (show StrRow 0 _ (.slice none 0 0) [] from World.ownsRow_nil _ _ _ _).at, (show PairRow 0 _ (.slice none 0 0) [] from World.ownsRow_nil _ _ _ _).at, b9⟩

end Go.Proofs.Ytopmahiapejkgaa.Dm
