/- Slices of declarations that came in as arguments: what the walk is told of them. -/
import Derived.Test.YtghjpefkeobfnabDoorVlLaid
import Derived.Test.YtghjpefkeobfnabDoorVlSets
namespace Go.Proofs.YtghjpefkeobfnabDoor.Vl
open Go Go.RowKit Go.Lib Go.ChangeShapes Go.WideShapes Go.ChangeAt

theorem cells_dl : Tryd.prog.cellsOf 38 = 3 := by kernel_rfl
theorem cells_tks : Tryd.prog.cellsOf 31 = 1 := by kernel_rfl
def dlCells (d : Dl) : List Value := [.string d.name, d.v, .bool d.imp]
theorem declsAt_of_reads {H : Type} {enc : TypeId × Value → H} {W : World} {a : Option Addr} {len cap : Nat} {d : DataW H} {p : List MemPlace}
    (h : DataW.Trod enc Tryd.prog W 0 (fun _ => true) true 34 (.slice a len cap) d p) : ∃ ds : List Dl, DlsAt W.heap.size W (.slice a len cap) ds ∧ ∀ d ∈ ds, ∀ t ∈ d.val, t.text.size ≤ maxLen := by
  obtain ⟨fuel, hf⟩ := h
  rcases Deep.open_slice Tryd.underlying34 hf with ⟨hcs, _⟩ | ⟨x, l, c, m, n, D, Pl, hcs, _, hl, hm, hmm, _, hel⟩
  · simp [Value.cells] at hcs
    obtain ⟨rfl, rfl, rfl⟩ := hcs
    exact ⟨[], .inl ⟨rfl, .inl rfl⟩, by simp⟩
  · simp [Value.cells] at hcs
    obtain ⟨rfl, rfl, rfl⟩ := hcs
    simp at hmm
    rw [hmm, cells_dl] at hel
    clear hmm
    have each : ∀ i, i < cap → ∃ d : Dl, BtsAt W.heap.size W d.v d.val ∧ (∀ t ∈ d.val, t.text.size ≤ maxLen) ∧ ∀ j u, (dlCells d)[j]? = some u → W.cell? ((x.add (i * 3)).add j) = some u := fun i hi => by
      obtain ⟨cs', hcs, htr⟩ := hel i hi
      obtain ⟨y0, y1, y2, m', _, hlen, g0, g1, g2⟩ := Deep.trod_struct3 Tryd.underlying38 htr
      rw [cells_dl] at hlen
      obtain ⟨_, hcl, hcc⟩ := World.cells?_some hcs
      match cs', hlen with
      | [c0, c1, c2], _ =>
        simp only [cells_str, cells_tks, cells_bool] at g0 g1 g2
        obtain ⟨k0, q0, _⟩ := DataW.trod_string Tryd.underlying9 g0
        obtain ⟨k2, q2, _⟩ := DataW.trod_bool Tryd.underlying4 g2
        have g1' : DataW.trod enc Tryd.prog W 0 (fun _ => true) true m' 31 [c1] = some y1 := g1
        obtain ⟨ts, hts, hsz⟩ := tokens_in g1'
        simp only [List.drop_zero, List.drop_succ_cons, List.take_succ_cons, List.take_zero, List.cons.injEq, and_true, List.take_nil] at q0 q2
        subst q0 q2
        refine ⟨⟨k0, ts, c1, k2⟩, hts, hsz, fun j u hj => ?_⟩
        have hjl : j < 3 := (List.getElem?_eq_some_iff.1 hj).1
        rw [hcc j hjl, ← hj]
        rfl
    obtain ⟨F, hF⟩ : ∃ F : Nat → Dl, ∀ i, i < cap → BtsAt W.heap.size W (F i).v (F i).val ∧ (∀ t ∈ (F i).val, t.text.size ≤ maxLen) ∧ ∀ j u, (dlCells (F i))[j]? = some u → W.cell? ((x.add (i * 3)).add j) = some u := by
      have : Inhabited Dl := ⟨⟨⟨#[]⟩, [], .bool false, false⟩⟩
      exact Deep.choose_lt each
    refine ⟨(List.range len).map F, ?_, fun d hd => ?_⟩
    · by_cases h0 : len = 0
      · exact .inl ⟨by simp [h0], .inr ⟨_, _, by rw [h0], hm⟩⟩
      · obtain ⟨b, off, spot⟩ := x
        have hc0 := (hF 0 (by omega)).2.2 0 _ rfl
        have hspot : spot = none := by simpa [Addr.add] using World.cell?_spot hc0
        subst hspot
        have key : ∀ i j, (((⟨b, off, none⟩ : Addr).add (i * 3)).add j) = ⟨b, off + i * 3 + j, none⟩ := fun i j => by rw [addr_add, addr_add]
        refine .inr ⟨b, off, cap, by simp, by simpa using hl, hm, World.block_lt_of_cell? W ⟨b, off, none⟩ (by rw [key] at hc0; simpa using hc0), fun j t hj => ?_⟩
        rw [List.getElem?_map] at hj
        obtain ⟨i, hi, rfl⟩ := Option.map_eq_some_iff.1 hj
        obtain ⟨h1, h2⟩ := List.getElem?_eq_some_iff.1 hi
        simp at h1 h2
        subst h2
        have hh := fun q u hq => (key j q ▸ (hF j (by omega)).2.2 q u hq : W.cell? ⟨b, off + j * 3 + q, none⟩ = some u)
        exact ⟨hh 0 _ rfl, hh 1 _ rfl, hh 2 _ rfl, (hF j (by omega)).1⟩
    · obtain ⟨i, hi, rfl⟩ := List.mem_map.1 hd
      have := List.mem_range.1 hi
      exact (hF i (by omega)).2.1

end Go.Proofs.YtghjpefkeobfnabDoor.Vl
