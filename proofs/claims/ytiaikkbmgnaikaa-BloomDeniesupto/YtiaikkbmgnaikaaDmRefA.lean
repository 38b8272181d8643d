/- The document's own tree: is, Parent, Depth, Node. -/
import Derived.Test.YtiaikkbmgnaikaaDmRefN
import Derived.Test.YtiaikkbmgnaikaaDmGb
namespace Go.Proofs.Ytiaikkbmgnaikaa.Dm
open Go Go.RowKit

theorem RTr.form {b : Nat} {W : World} {tb : Nat} {nv dv : Value} {ns : List Nv} {ds : List Int} (h : RTr b W tb nv dv ns ds) : (∃ p c, nv = .slice p ns.length c) ∧ (∃ p c, dv = .slice p ds.length c) := by
  refine ⟨owns_form h.row, ?_⟩
  have := owns_form h.dep
  exact this
theorem Tells.at {es : List El} {ns : List Nv} {ds : List Int} (h : Tells es ns ds) {k : Nat} {n : Nv} (hn : ns[k]? = some n) : ∃ q, es[k]? = some q ∧ q.nd = n.nd ∧ ds[k]? = some (q.depth : Int) := by
  have h1 : (ns.map Nv.nd)[k]? = some n.nd := by rw [List.getElem?_map, hn]; rfl
  rw [h.nds, List.getElem?_map] at h1
  obtain ⟨q, hq, hqn⟩ := Option.map_eq_some_iff.1 h1
  exact ⟨q, hq, hqn, by rw [h.dep]; unfold depI; rw [List.getElem?_map, hq]; rfl⟩

set_option maxRecDepth 100000 in
set_option maxHeartbeats 1000000 in
theorem refIs_any (b tb : Nat) (nv dv : Value) (ns : List Nv) (ds : List Int) (e : Int) (w : World) (hT : RTr b w tb nv dv ns ds) :
    Calls Try.prog 27 #[.pointer (some ⟨tb, 0, none⟩), .int .i64 e] w fun x w' => x = .returned (.bool (decide (0 ≤ e ∧ e < (ns.length : Int)))) ∧ w' = w := by
  obtain ⟨⟨c0, _⟩, _⟩ := blk2 hT.blk
  obtain ⟨⟨p, c, rfl⟩, _⟩ := hT.form
  clear hT
  by_cases h0 : 0 ≤ e
  · by_cases h1 : e < (ns.length : Int)
    · rw [decide_eq_true ⟨h0, h1⟩]
      go_enter Try.func27, Try.ntmps27
      go_wp2
      go_ret
      exact ⟨rfl, rfl⟩
    · rw [decide_eq_false (fun h => h1 h.2)]
      go_enter Try.func27, Try.ntmps27
      go_wp2
      go_ret
      exact ⟨rfl, rfl⟩
  · rw [decide_eq_false (fun h => h0 h.1)]
    go_enter Try.func27, Try.ntmps27
    go_wp2
    go_ret
    exact ⟨rfl, rfl⟩

/-- A node's cells in the document's own tree. -/
theorem RTr.get {b : Nat} {W : World} {tb : Nat} {nv dv : Value} {ns : List Nv} {ds : List Int} (h : RTr b W tb nv dv ns ds) {k : Nat} {n : Nv} (hn : ns[k]? = some n) :
    ∃ g c, nv = .slice (some ⟨g, 0, none⟩) ns.length c ∧ ns.length ≤ c ∧ c ≤ maxLen ∧ W.cell? ⟨g, k * 5, none⟩ = some (.int .i64 n.nd.parent) ∧ W.cell? ⟨g, k * 5 + 1, none⟩ = some (.string n.nd.tag) ∧ W.cell? ⟨g, k * 5 + 2, none⟩ = some (.string n.nd.id) ∧ W.cell? ⟨g, k * 5 + 3, none⟩ = some n.cv ∧ W.cell? ⟨g, k * 5 + 4, none⟩ = some n.av := by
  have hk : k < ns.length := (List.getElem?_eq_some_iff.1 hn).1
  rcases h.row.2 with ⟨rfl, h0⟩ | ⟨g, c, cur, hv, _, _, h1, h2, _⟩
  · omega
  · subst hv
    have hc : ∀ i u, (nvCells n)[i]? = some u → W.cell? ⟨g, k * 5 + i, none⟩ = some u := fun i u hu => by
      have hi : i < 5 := (List.getElem?_eq_some_iff.1 hu).1
      rw [h.row.cellAt _ (by omega), flat_at (f := nvCells) (fun _ => rfl) ns k n hn i hi]
      exact hu
    exact ⟨g, c, rfl, h1, h2, hc 0 _ rfl, hc 1 _ rfl, hc 2 _ rfl, hc 3 _ rfl, hc 4 _ rfl⟩
theorem RTr.getD {b : Nat} {W : World} {tb : Nat} {nv dv : Value} {ns : List Nv} {ds : List Int} (h : RTr b W tb nv dv ns ds) {k : Nat} {d : Int} (hn : ds[k]? = some d) :
    ∃ g c, dv = .slice (some ⟨g, 0, none⟩) ds.length c ∧ ds.length ≤ c ∧ c ≤ maxLen ∧ W.cell? ⟨g, k, none⟩ = some (.int .i64 d) := by
  have hk : k < ds.length := (List.getElem?_eq_some_iff.1 hn).1
  have hr := h.dep
  unfold IntRow at hr
  rcases hr.2 with ⟨rfl, h0⟩ | ⟨g, c, cur, hv, _, _, h1, h2, _⟩
  · omega
  · subst hv
    exact ⟨g, c, rfl, h1, h2, by rw [hr.cellAt _ (by omega), List.getElem?_map, hn]; rfl⟩

set_option maxRecDepth 100000 in
set_option maxHeartbeats 1000000 in
theorem refParent_any (b tb : Nat) (nv dv : Value) (ns : List Nv) (ds : List Int) (es : List El) (e : Int) (w : World) (hT : RTr b w tb nv dv ns ds) (hE : Tells es ns ds) :
    Calls Try.prog 16 #[.pointer (some ⟨tb, 0, none⟩), .int .i64 e] w fun x w' => x = .returned (.int .i64 (parentV es e)) ∧ w' = w := by
  have hh := refIs_any b tb nv dv ns ds e w hT
  obtain ⟨⟨c0, _⟩, _⟩ := blk2 hT.blk
  by_cases hin : 0 ≤ e ∧ e < (ns.length : Int)
  · rw [decide_eq_true hin] at hh
    obtain ⟨k, rfl⟩ : ∃ k : Nat, e = (k : Int) := ⟨e.toNat, by omega⟩
    have hk : k < ns.length := by omega
    obtain ⟨n, hn⟩ : ∃ n, ns[k]? = some n := ⟨_, List.getElem?_eq_getElem hk⟩
    obtain ⟨q, hq, hqn, _⟩ := hE.at hn
    have hV : parentV es (k : Int) = n.nd.parent := by unfold parentV; rw [elAt_yes hq, ← hqn]; rfl
    rw [hV]
    obtain ⟨g, c, rfl, hr1, hr2, x0, _⟩ := hT.get hn
    unfold maxLen at hr2
    have hki : (k : Int) < (ns.length : Int) := by omega
    clear hT hV hn hin hq hqn hE
    go_enter Try.func16, Try.ntmps16
    go_wp2_with fail
    refine hh.mono ?_
    clear hh
    rintro x w' ⟨rfl, rfl⟩
    go_wp2
    go_ret
    exact ⟨rfl, rfl⟩
  · rw [decide_eq_false hin] at hh
    have hV : parentV es e = (-1) := by unfold parentV; rw [elAt_no (fun h => hin (by rw [← hE.len.1] at h; exact h))]; rfl
    rw [hV]
    clear hT hV hin hE
    go_enter Try.func16, Try.ntmps16
    go_wp2_with fail
    refine hh.mono ?_
    clear hh
    rintro x w' ⟨rfl, rfl⟩
    go_wp2
    go_ret
    exact ⟨rfl, rfl⟩


end Go.Proofs.Ytiaikkbmgnaikaa.Dm
