/- The document's own tree: is, Parent, Depth, Node. -/
import Derived.Test.YtopmahiapejkgaaDmRefN
import Derived.Test.YtopmahiapejkgaaDmGb
namespace Go.Proofs.Ytopmahiapejkgaa.Dm
open Go Go.RowKit

theorem RTr.form {b : Nat} {W : World} {tb : Nat} {nv dv : Value} {ns : List Nv} {ds : List Int} (h : RTr b W tb nv dv ns ds) : (∃ p c, nv = .slice p ns.length c) ∧ (∃ p c, dv = .slice p ds.length c) := by
  refine ⟨owns_form h.row, ?_⟩
  have := owns_form h.dep
  exact this
theorem Tells.at {es : List El} {ns : List Nv} {ds : List Int} (h : Tells es ns ds) {k : Nat} {n : Nv} (hn : ns[k]? = some n) : ∃ q, es[k]? = some q ∧ q.nd = n.nd ∧ ds[k]? = some (q.depth : Int) := by
  have h1 : (ns.map Nv.nd)[k]? = some n.nd := by rw [List.getElem?_map, hn]; rfl
  rw [h.nds, List.getElem?_map] at h1
  obtain ⟨q, hq, hqn⟩ := Option.map_eq_some_iff.1 h1
  exact ⟨q, hq, hqn, by rw [h.dep]; unfold depI; rw [List.getElem?_map, hq]; rfl⟩

set_option maxRecDepth 100000 in
set_option maxHeartbeats 1000000 in
theorem refIs_any (b tb : Nat) (nv dv : Value) (ns : List Nv) (ds : List Int) (e : Int) (w : World) (hT : RTr b w tb nv dv ns ds) :
    Calls Try.prog 31 #[.pointer (some ⟨tb, 0, none⟩), .int .i64 e] w fun x w' => x = .returned (.bool (decide (0 ≤ e ∧ e < (ns.length : Int)))) ∧ w' = w := by
  obtain ⟨⟨c0, _⟩, _⟩ := blk2 hT.blk
  obtain ⟨⟨p, c, rfl⟩, _⟩ := hT.form
  clear hT
  by_cases h0 : 0 ≤ e
  · by_cases h1 : e < (ns.length : Int)
    · rw [decide_eq_true ⟨h0, h1⟩]
      go_enter Try.func31, Try.ntmps31
      go_wp2
      go_ret
      exact ⟨rfl, rfl⟩
    · rw [decide_eq_false (fun h => h1 h.2)]
      go_enter Try.func31, Try.ntmps31
      go_wp2
      go_ret
      exact ⟨rfl, rfl⟩
  · rw [decide_eq_false (fun h => h0 h.1)]
    go_enter Try.func31, Try.ntmps31
    go_wp2
    go_ret
    exact ⟨rfl, rfl⟩

/-- A node's cells in the document's own tree. -/
theorem RTr.get {b : Nat} {W : World} {tb : Nat} {nv dv : Value} {ns : List Nv} {ds : List Int} (h : RTr b W tb nv dv ns ds) {k : Nat} {n : Nv} (hn : ns[k]? = some n) :
    ∃ g c, nv = .slice (some ⟨g, 0, none⟩) ns.length c ∧ ns.length ≤ c ∧ c ≤ maxLen ∧ W.cell? ⟨g, k * 5, none⟩ = some (.int .i64 n.nd.parent) ∧ W.cell? ⟨g, k * 5 + 1, none⟩ = some (.string n.nd.tag) ∧ W.cell? ⟨g, k * 5 + 2, none⟩ = some (.string n.nd.id) ∧ W.cell? ⟨g, k * 5 + 3, none⟩ = some n.cv ∧ W.cell? ⟨g, k * 5 + 4, none⟩ = some n.av := by
  have hk : k < ns.length := (List.getElem?_eq_some_iff.1 hn).1
  rcases h.row.2 with ⟨rfl, h0⟩ | ⟨g, c, cur, hv, _, _, h1, h2, _⟩
  · omega
  · subst hv
    have hc : ∀ i u, (nvCells n)[i]? = some u → W.cell? ⟨g, k * 5 + i, none⟩ = some u := fun i u hu => by
      have hi : i < 5 := (List.getElem?_eq_some_iff.1 hu).1
      rw [h.row.cellAt _ (by omega), flat_at (f := nvCells) (fun _ => rfl) ns k n hn i hi]
      exact hu
    exact ⟨g, c, rfl, h1, h2, hc 0 _ rfl, hc 1 _ rfl, hc 2 _ rfl, hc 3 _ rfl, hc 4 _ rfl⟩
theorem RTr.getD {b : Nat} {W : World} {tb : Nat} {nv dv : Value} {ns : List Nv} {ds : List Int} (h : RTr b W tb nv dv ns ds) {k : Nat} {d : Int} (hn : ds[k]? = some d) :
    ∃ g c, dv = .slice (some ⟨g, 0, none⟩) ds.length c ∧ ds.length ≤ c ∧ c ≤ maxLen ∧ W.cell? ⟨g, k, none⟩ = some (.int .i64 d) := by
  have hk : k < ds.length := (List.getElem?_eq_some_iff.1 hn).1
  have hr := h.dep
  unfold IntRow at hr
  rcases hr.2 with ⟨rfl, h0⟩ | ⟨g, c, cur, hv, _, _, h1, h2, _⟩
  · omega
  · subst hv
    exact ⟨g, c, rfl, h1, h2, by rw [hr.cellAt _ (by omega), List.getElem?_map, hn]; rfl⟩

end Go.Proofs.Ytopmahiapejkgaa.Dm
