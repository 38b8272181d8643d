/- Nodes that came in as arguments: what the walk is told of them. -/
import Derived.Test.YtopmahiapejkgaaDmMem
import Derived.Test.YtopmahiapejkgaaRows
import Derived.Deep.Strs
import Derived.Deep.Grids
import Derived.ProofKit
import Derived.OpenShut
import Derived.ShutString
import Derived.ChangeOld
import Derived.SizedLaws
namespace Go.Proofs.Ytopmahiapejkgaa
open Go
set_option maxRecDepth 100000 in
theorem ownNone : ownKnob Try.prog.godebug = none := by kernel_rfl
set_option maxRecDepth 100000 in
theorem laidOut : laidOutB Try.prog = true := by kernel_rfl
set_option maxRecDepth 100000 in
theorem short_string {s : ByteArray} (h : s.data.toList.length ≤ reachBytes) : s.size ≤ 281474976710656 := by
  have h2 : s.size = s.data.toList.length := Array.length_toList.symm
  unfold reachBytes at h
  omega
end Go.Proofs.Ytopmahiapejkgaa
namespace Go.Proofs.Ytopmahiapejkgaa.Dm
open Go Go.RowKit Go.ChangeShapes Go.WideShapes Go.ChangeAt

set_option maxRecDepth 100000 in
theorem weights_all {H : Type} {P : Program} {e : TypeId} : ∀ {ds : List (DataW H)} {d : DataW H}, d ∈ ds → ∀ n ∈ d.weights P e, n ∈ DataW.weightsAll P e ds
  | x :: ds, d, h, n, hn => by
    rw [DataW.weightsAll, List.mem_append]
    rcases List.mem_cons.1 h with rfl | h
    · exact .inl hn
    · exact .inr (weights_all h n hn)

set_option maxRecDepth 100000 in
/-- A slice of things, each opened by itself. -/
theorem slice_in {H : Type} {enc : TypeId × Value → H} {W : World} {base fuel : Nat} {v : Value} {x : DataW H × List MemPlace} {t e : TypeId} {α : Type} [Inhabited α] (sz : Nat) (hz : 0 < sz) (f : α → List Value) (Good : α → Prop)
    (ht : Try.prog.underlying t = some (.slice e)) (hcells : Try.prog.cellsOf e = sz) (h : DataW.trod enc Try.prog W base (fun _ => true) true fuel t [v] = some x) (hw : ∀ n ∈ x.1.weights Try.prog t, n ≤ reachBytes)
    (each : ∀ n cs y, DataW.trod enc Try.prog W base (fun _ => true) true n e cs = some y → (∀ m ∈ y.1.weights Try.prog e, m ≤ reachBytes) → cs.length = sz → ∃ a : α, f a = cs ∧ Good a) :
    ∃ l : List α, SlAt sz f W.heap.size W v l ∧ (∀ a ∈ l, Good a) ∧ l.length * Try.prog.bytesOf e ≤ reachBytes := by
  rcases Deep.open_slice ht h with ⟨hcs, _⟩ | ⟨x, len, cap, m, n, D, Pl, hcs, _, hl, hm, hmm, rfl, hel⟩
  · cases hcs
    exact ⟨[], .inl ⟨rfl, .inl rfl⟩, fun _ h => (by cases h), by simp⟩
  · cases hcs
    simp only [if_true] at hmm
    subst hmm
    rw [hcells] at hel
    simp only [DataW.weights, ht] at hw
    have hD : ∀ i, i < len → ∀ k ∈ (D i).weights Try.prog e, k ≤ reachBytes := fun i hi k hk => hw k (List.mem_cons_of_mem _ (List.mem_append_left _ (weights_all (List.mem_map.2 ⟨i, List.mem_range.2 hi, rfl⟩) k hk)))
    have one : ∀ i, i < len → ∃ a : α, Good a ∧ (f a).length = sz ∧ ∀ j u, (f a)[j]? = some u → W.cell? ((x.add (i * sz)).add j) = some u := fun i hi => by
      obtain ⟨cs', hcs, htr⟩ := hel i (by omega)
      obtain ⟨_, hcl, hcc⟩ := World.cells?_some hcs
      obtain ⟨a, ha, hg⟩ := each n cs' _ htr (hD i hi) hcl
      refine ⟨a, hg, by rw [ha, hcl], fun j u hj => ?_⟩
      rw [ha] at hj
      have hjl : j < sz := by rw [← hcl]; exact (List.getElem?_eq_some_iff.1 hj).1
      rw [hcc j hjl, hj]
    obtain ⟨F, hF⟩ := Deep.choose_lt one
    have hbytes : len * Try.prog.bytesOf e ≤ reachBytes := by
      have h1 := hw _ (List.mem_cons_self ..)
      simp only [List.length_map, List.length_range] at h1
      exact Nat.le_trans (Nat.mul_le_mul_right _ (Nat.le_add_right _ _)) h1
    refine ⟨(List.range len).map F, ?_, fun a ha => ?_, by simpa using hbytes⟩
    · by_cases h0 : len = 0
      · exact .inl ⟨by simp [h0], .inr ⟨_, _, by rw [h0], hm⟩⟩
      · obtain ⟨b, off, spot⟩ := x
        obtain ⟨_, hf0, hF0⟩ := hF 0 (by omega)
        have hex : ∃ u, (f (F 0))[0]? = some u := ⟨_, List.getElem?_eq_getElem (by rw [hf0]; exact hz)⟩
        obtain ⟨u0, hu0⟩ := hex
        have hc0 := hF0 0 u0 hu0
        have hspot : spot = none := by simpa [Addr.add] using World.cell?_spot hc0
        subst hspot
        have key : ∀ i j, (((⟨b, off, none⟩ : Addr).add (i * sz)).add j) = ⟨b, off + i * sz + j, none⟩ := fun i j => by rw [addr_add, addr_add]
        refine .inr ⟨b, off, _, by simp, by simpa using hl, hm, World.block_lt_of_cell? W ⟨b, off, none⟩ (by rw [key] at hc0; simpa using hc0), fun j a hj i u hu => ?_⟩
        rw [List.getElem?_map] at hj
        obtain ⟨k, hk, rfl⟩ := Option.map_eq_some_iff.1 hj
        obtain ⟨h1, h2⟩ := List.getElem?_eq_some_iff.1 hk
        simp at h1 h2
        subst h2
        have := (hF j (by omega)).2.2 i u hu
        rwa [key] at this
    · obtain ⟨i, hi, rfl⟩ := List.mem_map.1 ha
      exact (hF i (List.mem_range.1 hi)).1

set_option maxRecDepth 100000 in
theorem cells_str : Try.prog.cellsOf 9 = 1 := by kernel_rfl
set_option maxRecDepth 100000 in
theorem cells_pair : Try.prog.cellsOf 40 = 2 := by kernel_rfl
set_option maxRecDepth 100000 in
theorem cells_node : Try.prog.cellsOf 31 = 5 := by kernel_rfl
set_option maxRecDepth 100000 in
theorem cells_strs : Try.prog.cellsOf 28 = 1 := by kernel_rfl
set_option maxRecDepth 100000 in
theorem cells_pairs : Try.prog.cellsOf 29 = 1 := by kernel_rfl
set_option maxRecDepth 100000 in
theorem cells_int : Try.prog.cellsOf 3 = 1 := by kernel_rfl
set_option maxRecDepth 100000 in
theorem bytes_str : Try.prog.bytesOf 9 = 16 := by kernel_rfl
set_option maxRecDepth 100000 in
theorem bytes_pair : Try.prog.bytesOf 40 = 32 := by kernel_rfl
set_option maxRecDepth 100000 in
theorem bytes_node : Try.prog.bytesOf 31 = 88 := by kernel_rfl
set_option maxRecDepth 100000 in
theorem short_lit {H : Type} {s : ByteArray} (hw : ∀ m ∈ (DataW.lit (.string s.data.toList) : DataW H).weights Try.prog 9, m ≤ reachBytes) : s.size ≤ 281474976710656 := short_string (hw _ (by simp [DataW.weights]))
set_option maxRecDepth 100000 in
theorem strs_in {H : Type} {enc : TypeId × Value → H} {W : World} {base fuel : Nat} {v : Value} {x : DataW H × List MemPlace} (h : DataW.trod enc Try.prog W base (fun _ => true) true fuel 28 [v] = some x) (hw : ∀ n ∈ x.1.weights Try.prog 28, n ≤ reachBytes) :
    ∃ l : List ByteArray, StrsAt W.heap.size W v l ∧ (∀ s ∈ l, s.size ≤ 281474976710656) ∧ l.length * 16 ≤ 140737488355328 := by
  have : Inhabited ByteArray := ⟨⟨#[]⟩⟩
  obtain ⟨l, h1, h2, h3⟩ := slice_in 1 (by decide) stCells (fun s => s.size ≤ 281474976710656) Try.underlying28 cells_str h hw (fun n cs y hy hwy hl => by
    obtain ⟨s, rfl, hys, _⟩ := DataW.trod_string Try.underlying9 hy
    rw [hys] at hwy
    exact ⟨s, rfl, short_lit hwy⟩)
  rw [bytes_str] at h3
  unfold reachBytes at h3
  exact ⟨l, h1, h2, by omega⟩
set_option maxRecDepth 100000 in
theorem pairs_in {H : Type} {enc : TypeId × Value → H} {W : World} {base fuel : Nat} {v : Value} {x : DataW H × List MemPlace} (h : DataW.trod enc Try.prog W base (fun _ => true) true fuel 29 [v] = some x) (hw : ∀ n ∈ x.1.weights Try.prog 29, n ≤ reachBytes) :
    ∃ l : List (ByteArray × ByteArray), PairsAt W.heap.size W v l ∧ (∀ a ∈ l, a.1.size ≤ 281474976710656 ∧ a.2.size ≤ 281474976710656) ∧ l.length * 32 ≤ 140737488355328 := by
  have : Inhabited (ByteArray × ByteArray) := ⟨(⟨#[]⟩, ⟨#[]⟩)⟩
  obtain ⟨l, h1, h2, h3⟩ := slice_in 2 (by decide) paCells (fun a => a.1.size ≤ 281474976710656 ∧ a.2.size ≤ 281474976710656) Try.underlying29 cells_pair h hw (fun n cs y hy hwy hl => by
    obtain ⟨xs, n', _, rfl, _, hxl, hf⟩ := DataW.trod_struct Try.underlying40 hy
    match cs, hl with
    | [c0, c1], _ =>
      match xs, hxl with
      | [y0, y1], _ =>
        have f0 := hf 0 _ rfl
        have f1 := hf 1 _ rfl
        simp only [List.getElem?_cons_zero, List.getElem?_cons_succ] at f0 f1
        obtain ⟨k0, g0, e0, _⟩ := DataW.trod_string Try.underlying9 f0
        obtain ⟨k1, g1, e1, _⟩ := DataW.trod_string Try.underlying9 f1
        cases g0
        cases g1
        simp only [DataW.weights, Try.underlying40] at hwy
        refine ⟨(k0, k1), rfl, short_lit (H := H) (fun m hm => hwy m (DataW.weights_mem_each (j := 0) rfl rfl m ?_)), short_lit (H := H) (fun m hm => hwy m (DataW.weights_mem_each (j := 1) rfl rfl m ?_))⟩
        · rw [e0]; exact hm
        · rw [e1]; exact hm)
  rw [bytes_pair] at h3
  unfold reachBytes at h3
  exact ⟨l, h1, h2, by omega⟩
set_option maxRecDepth 100000 in
/-- One node. -/
theorem node_in {H : Type} {enc : TypeId × Value → H} {W : World} {base n : Nat} {cs : List Value} {y : DataW H × List MemPlace} (hy : DataW.trod enc Try.prog W base (fun _ => true) true n 31 cs = some y) (hwy : ∀ m ∈ y.1.weights Try.prog 31, m ≤ reachBytes) :
    ∃ a : Nv, nvCells a = cs ∧ StrsAt W.heap.size W a.cv a.nd.cls ∧ PairsAt W.heap.size W a.av a.nd.ats ∧ NdOk a.nd ∧ (Lit.int .i64 a.nd.parent).wf = true := by
  obtain ⟨xs, n', _, rfl, hl, hxl, hf⟩ := DataW.trod_struct Try.underlying31 hy
  rw [cells_node] at hl
  match cs, hl with
  | [c0, c1, c2, c3, c4], _ =>
    match xs, hxl with
    | [y0, y1, y2, y3, y4], _ =>
      have f0 := hf 0 _ rfl
      have f1 := hf 1 _ rfl
      have f2 := hf 2 _ rfl
      have f3 := hf 3 _ rfl
      have f4 := hf 4 _ rfl
      simp only [List.getElem?_cons_zero, List.getElem?_cons_succ] at f0 f1 f2 f3 f4
      obtain ⟨k0, g0, e0, w0⟩ := DataW.trod_int Try.underlying3 f0
      obtain ⟨k1, g1, e1, _⟩ := DataW.trod_string Try.underlying9 f1
      obtain ⟨k2, g2, e2, _⟩ := DataW.trod_string Try.underlying9 f2
      simp only [DataW.weights, Try.underlying31] at hwy
      have f3' : DataW.trod enc Try.prog W base (fun _ => true) true n' 28 [c3] = some y3 := f3
      have f4' : DataW.trod enc Try.prog W base (fun _ => true) true n' 29 [c4] = some y4 := f4
      obtain ⟨l3, a3, b3, d3⟩ := strs_in f3' (fun m hm => hwy m (DataW.weights_mem_each (j := 3) rfl rfl m hm))
      obtain ⟨l4, a4, b4, d4⟩ := pairs_in f4' (fun m hm => hwy m (DataW.weights_mem_each (j := 4) rfl rfl m hm))
      cases g0
      cases g1
      cases g2
      refine ⟨⟨⟨k0, k1, k2, l3, l4⟩, c3, c4⟩, rfl, a3, a4, ⟨short_lit (H := H) (fun m hm => hwy m (DataW.weights_mem_each (j := 1) rfl rfl m ?_)), short_lit (H := H) (fun m hm => hwy m (DataW.weights_mem_each (j := 2) rfl rfl m ?_)), b3, b4, d3, d4⟩, w0⟩
      · rw [e1]; exact hm
      · rw [e2]; exact hm
set_option maxRecDepth 100000 in
theorem nodesAt_of_reads {H : Type} {enc : TypeId × Value → H} {W : World} {a : Option Addr} {len cap : Nat} {d : DataW H} {p : List MemPlace}
    (h : DataW.Trod enc Try.prog W 0 (fun _ => true) true 22 (.slice a len cap) d p) (hw : ∀ n ∈ d.weights Try.prog 22, n ≤ reachBytes) :
    ∃ l : List Nv, NodesAt W.heap.size W (.slice a len cap) l ∧ (∀ n ∈ l, NdOk n.nd) ∧ l.length * 88 ≤ 140737488351232 := by
  obtain ⟨fuel, hf⟩ := h
  have : Inhabited Nv := ⟨⟨zeroNd, .bool false, .bool false⟩⟩
  obtain ⟨l, h1, h2, h3⟩ := slice_in 5 (by decide) nvCells (fun a => StrsAt W.heap.size W a.cv a.nd.cls ∧ PairsAt W.heap.size W a.av a.nd.ats ∧ NdOk a.nd) Try.underlying22 cells_node (v := .slice a len cap) hf hw (fun n cs y hy hwy _ => by
    obtain ⟨a, h1, h2, h3, h4, _⟩ := node_in hy hwy
    exact ⟨a, h1, h2, h3, h4⟩)
  rw [bytes_node] at h3
  unfold reachBytes at h3
  exact ⟨l, ⟨h1, fun n hn => (h2 n hn).1, fun n hn => (h2 n hn).2.1⟩, fun n hn => (h2 n hn).2.2, by omega⟩

set_option maxRecDepth 100000 in
theorem nodeAt_of_reads {H : Type} {enc : TypeId × Value → H} {W : World} {base : Nat} {v : Value} {d : DataW H} {p : List MemPlace}
    (h : DataW.Trod enc Try.prog W 0 (fun _ => true) true 31 v d p) (hv : Value.okWide Try.prog W .any base 31 v) (hw : ∀ n ∈ d.weights Try.prog 31, n ≤ reachBytes) :
    ∃ a : Nv, v = ndVal a.nd a.cv a.av ∧ StrsAt W.heap.size W a.cv a.nd.cls ∧ PairsAt W.heap.size W a.av a.nd.ats ∧ NdOk a.nd ∧ (Lit.int .i64 a.nd.parent).wf = true := by
  obtain ⟨cs, rfl, _⟩ := okWide_struct Try.underlying31 hv
  obtain ⟨fuel, hf⟩ := h
  obtain ⟨a, h1, h2⟩ := node_in hf hw
  refine ⟨a, ?_, h2⟩
  have h3 : cs.toList = nvCells a := by rw [h1]; rfl
  have h4 : cs = (nvCells a).toArray := by rw [← h3]
  rw [h4]
  rfl

end Go.Proofs.Ytopmahiapejkgaa.Dm
