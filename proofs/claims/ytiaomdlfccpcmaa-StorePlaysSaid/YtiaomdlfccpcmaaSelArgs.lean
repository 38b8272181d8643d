/- Selectors and rules that came in as arguments: what the walk is told of them. -/
import Derived.Test.YtiaomdlfccpcmaaWgMem
import Derived.Test.YtiaomdlfccpcmaaWgArgs
namespace Go.Proofs.Ytiaomdlfccpcmaa.Wg
open Go.Proofs.Ytiaomdlfccpcmaa.Tre
open Go Go.RowKit Go.ChangeShapes Go.WideShapes Go.ChangeAt Sl

set_option maxRecDepth 100000 in
theorem weights_all {H : Type} {P : Program} {e : TypeId} : ∀ {ds : List (DataW H)} {d : DataW H}, d ∈ ds → ∀ n ∈ d.weights P e, n ∈ DataW.weightsAll P e ds
  | x :: ds, d, h, n, hn => by
    rw [DataW.weightsAll, List.mem_append]
    rcases List.mem_cons.1 h with rfl | h
    · exact .inl hn
    · exact .inr (weights_all h n hn)
theorem addr_add' (bk off j : Nat) : (⟨bk, off, none⟩ : Addr).add j = ⟨bk, off + j, none⟩ := by
  unfold Addr.add
  split
  · simp_all
  · rfl

set_option maxRecDepth 100000 in
/-- A slice of things, each opened by itself. -/
theorem row_in {H : Type} {enc : TypeId × Value → H} {W : World} {base fuel : Nat} {v : Value} {x : DataW H × List MemPlace} {t e : TypeId} {α : Type} [Inhabited α] (sz : Nat) (hz : 0 < sz) (T : List Value → α → Prop) (Ok : α → Prop)
    (ht : Try.prog.underlying t = some (.slice e)) (hcells : Try.prog.cellsOf e = sz) (h : DataW.trod enc Try.prog W base (fun _ => true) true fuel t [v] = some x) (hw : ∀ n ∈ x.1.weights Try.prog t, n ≤ reachBytes)
    (each : ∀ n cs y, DataW.trod enc Try.prog W base (fun _ => true) true n e cs = some y → (∀ m ∈ y.1.weights Try.prog e, m ≤ reachBytes) → cs.length = sz → ∃ a : α, T cs a ∧ Ok a) :
    ∃ l : List α, RowT sz T W.heap.size W v l ∧ (∀ a ∈ l, Ok a) ∧ l.length * Try.prog.bytesOf e ≤ reachBytes := by
  rcases Deep.open_slice ht h with ⟨hcs, _⟩ | ⟨x, len, cap, m, n, D, Pl, hcs, _, hl, hm, hmm, rfl, hel⟩
  · cases hcs
    exact ⟨[], .inl ⟨rfl, _, _, rfl⟩, fun _ h => (by cases h), by simp⟩
  · cases hcs
    simp only [if_true] at hmm
    subst hmm
    rw [hcells] at hel
    simp only [DataW.weights, ht] at hw
    have hD : ∀ i, i < len → ∀ k ∈ (D i).weights Try.prog e, k ≤ reachBytes := fun i hi k hk => hw k (List.mem_cons_of_mem _ (List.mem_append_left _ (weights_all (List.mem_map.2 ⟨i, List.mem_range.2 hi, rfl⟩) k hk)))
    have one : ∀ i, i < len → ∃ a : α × List Value, Ok a.1 ∧ T a.2 a.1 ∧ a.2.length = sz ∧ ∀ j u, a.2[j]? = some u → W.cell? ((x.add (i * sz)).add j) = some u := fun i hi => by
      obtain ⟨cs', hcs, htr⟩ := hel i (by omega)
      obtain ⟨_, hcl, hcc⟩ := World.cells?_some hcs
      obtain ⟨a, ha, hg⟩ := each n cs' _ htr (hD i hi) hcl
      refine ⟨(a, cs'), hg, ha, hcl, fun j u hj => ?_⟩
      have hjl : j < sz := by rw [← hcl]; exact (List.getElem?_eq_some_iff.1 hj).1
      rw [hcc j hjl, hj]
    obtain ⟨F, hF⟩ := Deep.choose_lt one
    have hbytes : len * Try.prog.bytesOf e ≤ reachBytes := by
      have h1 := hw _ (List.mem_cons_self ..)
      simp only [List.length_map, List.length_range] at h1
      exact Nat.le_trans (Nat.mul_le_mul_right _ (Nat.le_add_right _ _)) h1
    refine ⟨(List.range len).map (fun i => (F i).1), ?_, fun a ha => ?_, by simpa using hbytes⟩
    · by_cases h0 : len = 0
      · subst h0
        exact .inl ⟨rfl, _, _, rfl⟩
      · obtain ⟨b, off, spot⟩ := x
        obtain ⟨_, _, hf0, hF0⟩ := hF 0 (by omega)
        have hex : ∃ u, (F 0).2[0]? = some u := ⟨_, List.getElem?_eq_getElem (by rw [hf0]; exact hz)⟩
        obtain ⟨u0, hu0⟩ := hex
        have hc0 := hF0 0 u0 hu0
        have hspot : spot = none := by simpa [Addr.add] using World.cell?_spot hc0
        subst hspot
        have key : ∀ i j, (((⟨b, off, none⟩ : Addr).add (i * sz)).add j) = ⟨b, off + i * sz + j, none⟩ := fun i j => by rw [addr_add', addr_add']
        refine .inr ⟨b, off, _, by simp, by simpa using hl, hm, World.block_lt_of_cell? W ⟨b, off, none⟩ (by rw [key] at hc0; simpa using hc0), fun j a hj => ?_⟩
        rw [List.getElem?_map] at hj
        obtain ⟨k, hk, rfl⟩ := Option.map_eq_some_iff.1 hj
        obtain ⟨h1, h2⟩ := List.getElem?_eq_some_iff.1 hk
        simp at h1 h2
        subst h2
        obtain ⟨_, g2, g3, g4⟩ := hF j (by omega)
        refine ⟨(F j).2, g3, g2, fun i u hu => ?_⟩
        have := g4 i u hu
        rwa [key] at this
    · obtain ⟨i, hi, rfl⟩ := List.mem_map.1 ha
      exact (hF i (List.mem_range.1 hi)).1

def NsOk (l : List ByteArray) : Prop := ∀ s ∈ l, s.size ≤ 281474976710656
set_option maxRecDepth 100000 in
theorem cells_str : Try.prog.cellsOf 9 = 1 := by kernel_rfl
set_option maxRecDepth 100000 in
theorem short_lit {H : Type} {s : ByteArray} (hw : ∀ m ∈ (DataW.lit (.string s.data.toList) : DataW H).weights Try.prog 9, m ≤ reachBytes) : s.size ≤ 281474976710656 := short_string (hw _ (by simp [DataW.weights]))
/-- A compound's names are in reach. -/
def CpOk (c : Cp) : Prop := c.tag.size ≤ 281474976710656 ∧ NsOk c.ids ∧ NsOk c.classes ∧ ∀ a ∈ c.attrs, a.name.size ≤ 281474976710656 ∧ a.text.size ≤ 281474976710656 ∧ (Lit.int .i64 a.op).wf = true
def SlOk (s : Sel) : Prop := ∀ p ∈ s, CpOk p.2
/-- One selector as a value: its parts, ten lists deep. -/
def SelAt (s : Sel) (W : World) (v : Value) : Prop := ∃ x, v = .agg #[x] ∧ PartsR 10 W.heap.size W x s
end Go.Proofs.Ytiaomdlfccpcmaa.Wg
namespace Go.Proofs.Ytiaomdlfccpcmaa
open Go.Proofs.Ytiaomdlfccpcmaa.Tre
open Go Go.RowKit Go.ChangeShapes Go.WideShapes Go.ChangeAt Sl Wg
end Go.Proofs.Ytiaomdlfccpcmaa
