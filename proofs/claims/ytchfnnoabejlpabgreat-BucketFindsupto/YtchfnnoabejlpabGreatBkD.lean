/- Selectors and rules that came in as arguments: what the walk is told of them. -/
import Derived.Test.YtchfnnoabejlpabGreatWgMem
import Derived.Test.YtchfnnoabejlpabGreatWgArgs
import Derived.Test.YtchfnnoabejlpabGreatBkFor
import Derived.Test.YtchfnnoabejlpabGreatRows
namespace Go.Proofs.YtchfnnoabejlpabGreat.Wg
open Go.Proofs.YtchfnnoabejlpabGreat.Tre
open Go Go.RowKit Go.ChangeShapes Go.WideShapes Go.ChangeAt Sl

set_option maxRecDepth 100000 in
theorem weights_all {H : Type} {P : Program} {e : TypeId} : ∀ {ds : List (DataW H)} {d : DataW H}, d ∈ ds → ∀ n ∈ d.weights P e, n ∈ DataW.weightsAll P e ds
  | x :: ds, d, h, n, hn => by
    rw [DataW.weightsAll, List.mem_append]
    rcases List.mem_cons.1 h with rfl | h
    · exact .inl hn
    · exact .inr (weights_all h n hn)
theorem addr_add' (bk off j : Nat) : (⟨bk, off, none⟩ : Addr).add j = ⟨bk, off + j, none⟩ := by
  unfold Addr.add
  split
  · simp_all
  · rfl

set_option maxRecDepth 100000 in
/-- A slice of things, each opened by itself. -/
theorem row_in {H : Type} {enc : TypeId × Value → H} {W : World} {base fuel : Nat} {v : Value} {x : DataW H × List MemPlace} {t e : TypeId} {α : Type} [Inhabited α] (sz : Nat) (hz : 0 < sz) (T : List Value → α → Prop) (Ok : α → Prop)
    (ht : Tryz.prog.underlying t = some (.slice e)) (hcells : Tryz.prog.cellsOf e = sz) (h : DataW.trod enc Tryz.prog W base (fun _ => true) true fuel t [v] = some x) (hw : ∀ n ∈ x.1.weights Tryz.prog t, n ≤ reachBytes)
    (each : ∀ n cs y, DataW.trod enc Tryz.prog W base (fun _ => true) true n e cs = some y → (∀ m ∈ y.1.weights Tryz.prog e, m ≤ reachBytes) → cs.length = sz → ∃ a : α, T cs a ∧ Ok a) :
    ∃ l : List α, RowT sz T W.heap.size W v l ∧ (∀ a ∈ l, Ok a) ∧ l.length * Tryz.prog.bytesOf e ≤ reachBytes := by
  rcases Deep.open_slice ht h with ⟨hcs, _⟩ | ⟨x, len, cap, m, n, D, Pl, hcs, _, hl, hm, hmm, rfl, hel⟩
  · cases hcs
    exact ⟨[], .inl ⟨rfl, _, _, rfl⟩, fun _ h => (by cases h), by simp⟩
  · cases hcs
    simp only [if_true] at hmm
    subst hmm
    rw [hcells] at hel
    simp only [DataW.weights, ht] at hw
    have hD : ∀ i, i < len → ∀ k ∈ (D i).weights Tryz.prog e, k ≤ reachBytes := fun i hi k hk => hw k (List.mem_cons_of_mem _ (List.mem_append_left _ (weights_all (List.mem_map.2 ⟨i, List.mem_range.2 hi, rfl⟩) k hk)))
    have one : ∀ i, i < len → ∃ a : α × List Value, Ok a.1 ∧ T a.2 a.1 ∧ a.2.length = sz ∧ ∀ j u, a.2[j]? = some u → W.cell? ((x.add (i * sz)).add j) = some u := fun i hi => by
      obtain ⟨cs', hcs, htr⟩ := hel i (by omega)
      obtain ⟨_, hcl, hcc⟩ := World.cells?_some hcs
      obtain ⟨a, ha, hg⟩ := each n cs' _ htr (hD i hi) hcl
      refine ⟨(a, cs'), hg, ha, hcl, fun j u hj => ?_⟩
      have hjl : j < sz := by rw [← hcl]; exact (List.getElem?_eq_some_iff.1 hj).1
      rw [hcc j hjl, hj]
    obtain ⟨F, hF⟩ := Deep.choose_lt one
    have hbytes : len * Tryz.prog.bytesOf e ≤ reachBytes := by
      have h1 := hw _ (List.mem_cons_self ..)
      simp only [List.length_map, List.length_range] at h1
      exact Nat.le_trans (Nat.mul_le_mul_right _ (Nat.le_add_right _ _)) h1
    refine ⟨(List.range len).map (fun i => (F i).1), ?_, fun a ha => ?_, by simpa using hbytes⟩
    · by_cases h0 : len = 0
      · subst h0
        exact .inl ⟨rfl, _, _, rfl⟩
      · obtain ⟨b, off, spot⟩ := x
        obtain ⟨_, _, hf0, hF0⟩ := hF 0 (by omega)
        have hex : ∃ u, (F 0).2[0]? = some u := ⟨_, List.getElem?_eq_getElem (by rw [hf0]; exact hz)⟩
        obtain ⟨u0, hu0⟩ := hex
        have hc0 := hF0 0 u0 hu0
        have hspot : spot = none := by simpa [Addr.add] using World.cell?_spot hc0
        subst hspot
        have key : ∀ i j, (((⟨b, off, none⟩ : Addr).add (i * sz)).add j) = ⟨b, off + i * sz + j, none⟩ := fun i j => by rw [addr_add', addr_add']
        refine .inr ⟨b, off, _, by simp, by simpa using hl, hm, World.block_lt_of_cell? W ⟨b, off, none⟩ (by rw [key] at hc0; simpa using hc0), fun j a hj => ?_⟩
        rw [List.getElem?_map] at hj
        obtain ⟨k, hk, rfl⟩ := Option.map_eq_some_iff.1 hj
        obtain ⟨h1, h2⟩ := List.getElem?_eq_some_iff.1 hk
        simp at h1 h2
        subst h2
        obtain ⟨_, g2, g3, g4⟩ := hF j (by omega)
        refine ⟨(F j).2, g3, g2, fun i u hu => ?_⟩
        have := g4 i u hu
        rwa [key] at this
    · obtain ⟨i, hi, rfl⟩ := List.mem_map.1 ha
      exact (hF i (List.mem_range.1 hi)).1

def NsOk (l : List ByteArray) : Prop := ∀ s ∈ l, s.size ≤ 281474976710656
set_option maxRecDepth 100000 in
theorem cells_str : Tryz.prog.cellsOf 9 = 1 := by kernel_rfl
set_option maxRecDepth 100000 in
theorem cells_attr : Tryz.prog.cellsOf 155 = 3 := by kernel_rfl
set_option maxRecDepth 100000 in
theorem cells_ps : Tryz.prog.cellsOf 109 = 4 := by kernel_rfl
set_option maxRecDepth 100000 in
theorem cells_part : Tryz.prog.cellsOf 84 = 6 := by kernel_rfl
set_option maxRecDepth 100000 in
theorem cells_comp : Tryz.prog.cellsOf 82 = 5 := by kernel_rfl
set_option maxRecDepth 100000 in
theorem cells_sel : Tryz.prog.cellsOf 50 = 1 := by kernel_rfl
set_option maxRecDepth 100000 in
theorem short_lit {H : Type} {s : ByteArray} (hw : ∀ m ∈ (DataW.lit (.string s.data.toList) : DataW H).weights Tryz.prog 9, m ≤ reachBytes) : s.size ≤ 281474976710656 := short_string (hw _ (by simp [DataW.weights]))
set_option maxRecDepth 100000 in
theorem names_in {H : Type} {enc : TypeId × Value → H} {W : World} {base fuel : Nat} {v : Value} {x : DataW H × List MemPlace} (h : DataW.trod enc Tryz.prog W base (fun _ => true) true fuel 34 [v] = some x) (hw : ∀ n ∈ x.1.weights Tryz.prog 34, n ≤ reachBytes) :
    ∃ l : List ByteArray, RowT 1 StrC W.heap.size W v l ∧ NsOk l := by
  have : Inhabited ByteArray := ⟨⟨#[]⟩⟩
  obtain ⟨l, h1, h2, _⟩ := row_in 1 (by decide) StrC (fun s => s.size ≤ 281474976710656) Tryz.underlying34 cells_str h hw (fun n cs y hy hwy hl => by
    obtain ⟨s, rfl, hys, _⟩ := DataW.trod_string Tryz.underlying9 hy
    rw [hys] at hwy
    exact ⟨s, rfl, short_lit hwy⟩)
  exact ⟨l, h1, h2⟩
set_option maxRecDepth 100000 in
theorem attrs_in {H : Type} {enc : TypeId × Value → H} {W : World} {base fuel : Nat} {v : Value} {x : DataW H × List MemPlace} (h : DataW.trod enc Tryz.prog W base (fun _ => true) true fuel 79 [v] = some x) (hw : ∀ n ∈ x.1.weights Tryz.prog 79, n ≤ reachBytes) :
    ∃ l : List At, RowT 3 AtC W.heap.size W v l ∧ ∀ a ∈ l, a.name.size ≤ 281474976710656 ∧ a.text.size ≤ 281474976710656 ∧ (Lit.int .i64 a.op).wf = true := by
  have : Inhabited At := ⟨⟨⟨#[]⟩, 0, ⟨#[]⟩⟩⟩
  obtain ⟨l, h1, h2, _⟩ := row_in 3 (by decide) AtC (fun a : At => a.name.size ≤ 281474976710656 ∧ a.text.size ≤ 281474976710656 ∧ (Lit.int .i64 a.op).wf = true) Tryz.underlying79 cells_attr h hw (fun n cs y hy hwy hl => by
    obtain ⟨xs, n', _, rfl, _, hxl, hf⟩ := DataW.trod_struct Tryz.underlying155 hy
    match cs, hl with
    | [c0, c1, c2], _ =>
      match xs, hxl with
      | [y0, y1, y2], _ =>
        have f0 := hf 0 _ rfl
        have f1 := hf 1 _ rfl
        have f2 := hf 2 _ rfl
        simp only [List.getElem?_cons_zero, List.getElem?_cons_succ] at f0 f1 f2
        obtain ⟨k0, g0, e0, _⟩ := DataW.trod_string Tryz.underlying9 f0
        obtain ⟨k1, g1, e1, w1⟩ := DataW.trod_int Tryz.underlying3 f1
        obtain ⟨k2, g2, e2, _⟩ := DataW.trod_string Tryz.underlying9 f2
        cases g0
        cases g1
        cases g2
        simp only [DataW.weights, Tryz.underlying155] at hwy
        refine ⟨⟨k0, k1, k2⟩, rfl, short_lit (H := H) (fun m hm => hwy m (DataW.weights_mem_each (j := 0) rfl rfl m ?_)), short_lit (H := H) (fun m hm => hwy m (DataW.weights_mem_each (j := 2) rfl rfl m ?_)), w1⟩
        · rw [e0]; exact hm
        · rw [e2]; exact hm)
  exact ⟨l, h1, h2⟩
/-- A compound's names are in reach. -/
def CpOk (c : Cp) : Prop := c.tag.size ≤ 281474976710656 ∧ NsOk c.ids ∧ NsOk c.classes ∧ ∀ a ∈ c.attrs, a.name.size ≤ 281474976710656 ∧ a.text.size ≤ 281474976710656 ∧ (Lit.int .i64 a.op).wf = true
def SlOk (s : Sel) : Prop := ∀ p ∈ s, CpOk p.2
def SelsIn (d : Nat) : Prop := ∀ {H : Type} {enc : TypeId × Value → H} {W : World} {base fuel : Nat} {v : Value} {x : DataW H × List MemPlace}, DataW.trod enc Tryz.prog W base (fun _ => true) true fuel 40 [v] = some x → (∀ n ∈ x.1.weights Tryz.prog 40, n ≤ reachBytes) →
    ∃ l : List Sel, SelsR d W.heap.size W v l ∧ ∀ s ∈ l, SlOk s
set_option maxRecDepth 100000 in
theorem comp_in (d : Nat) (HS : SelsIn d) {H : Type} {enc : TypeId × Value → H} {W : World} {base n : Nat} {cs : List Value} {y : DataW H × List MemPlace} (hy : DataW.trod enc Tryz.prog W base (fun _ => true) true n 82 cs = some y) (hwy : ∀ m ∈ y.1.weights Tryz.prog 82, m ≤ reachBytes) :
    ∃ c : Cp, CpC (SelsR d W.heap.size W) W.heap.size W cs c ∧ CpOk c := by
  have : Inhabited Ps := ⟨.mk 0 0 0 []⟩
  obtain ⟨xs, n', _, rfl, hl, hxl, hf⟩ := DataW.trod_struct Tryz.underlying82 hy
  rw [cells_comp] at hl
  match cs, hl with
  | [c0, c1, c2, c3, c4], _ =>
    match xs, hxl with
    | [y0, y1, y2, y3, y4], _ =>
      have f0 := hf 0 _ rfl
      have f1 := hf 1 _ rfl
      have f2 := hf 2 _ rfl
      have f3 := hf 3 _ rfl
      have f4 := hf 4 _ rfl
      simp only [List.getElem?_cons_zero, List.getElem?_cons_succ] at f0 f1 f2 f3 f4
      obtain ⟨k0, g0, e0, _⟩ := DataW.trod_string Tryz.underlying9 f0
      simp only [DataW.weights, Tryz.underlying82] at hwy
      have f1' : DataW.trod enc Tryz.prog W base (fun _ => true) true n' 34 [c1] = some y1 := f1
      have f2' : DataW.trod enc Tryz.prog W base (fun _ => true) true n' 34 [c2] = some y2 := f2
      have f3' : DataW.trod enc Tryz.prog W base (fun _ => true) true n' 79 [c3] = some y3 := f3
      have f4' : DataW.trod enc Tryz.prog W base (fun _ => true) true n' 80 [c4] = some y4 := f4
      obtain ⟨l1, a1, b1⟩ := names_in f1' (fun m hm => hwy m (DataW.weights_mem_each (j := 1) rfl rfl m hm))
      obtain ⟨l2, a2, b2⟩ := names_in f2' (fun m hm => hwy m (DataW.weights_mem_each (j := 2) rfl rfl m hm))
      obtain ⟨l3, a3, b3⟩ := attrs_in f3' (fun m hm => hwy m (DataW.weights_mem_each (j := 3) rfl rfl m hm))
      obtain ⟨l4, a4, _, _⟩ := row_in 4 (by decide) (PsC (SelsR d W.heap.size W)) (fun _ => True) Tryz.underlying80 cells_ps f4' (fun m hm => hwy m (DataW.weights_mem_each (j := 4) rfl rfl m hm)) (fun n cs y hy hwy hl => by
        obtain ⟨xs, n', _, rfl, _, hxl, hf⟩ := DataW.trod_struct Tryz.underlying109 hy
        match cs, hl with
        | [p0, p1, p2, p3], _ =>
          match xs, hxl with
          | [z0, z1, z2, z3], _ =>
            have f0 := hf 0 _ rfl
            have f1 := hf 1 _ rfl
            have f2 := hf 2 _ rfl
            have f3 := hf 3 _ rfl
            simp only [List.getElem?_cons_zero, List.getElem?_cons_succ] at f0 f1 f2 f3
            obtain ⟨k0, g0, _, _⟩ := DataW.trod_int Tryz.underlying3 f0
            obtain ⟨k1, g1, _, _⟩ := DataW.trod_int Tryz.underlying3 f1
            obtain ⟨k2, g2, _, _⟩ := DataW.trod_int Tryz.underlying3 f2
            have f3' : DataW.trod enc Tryz.prog W base (fun _ => true) true n' 40 [p3] = some z3 := f3
            simp only [DataW.weights, Tryz.underlying109] at hwy
            obtain ⟨ls, h1, _⟩ := HS f3' (fun m hm => hwy m (DataW.weights_mem_each (j := 3) rfl rfl m hm))
            cases g0
            cases g1
            cases g2
            exact ⟨.mk k0 k1 k2 ls, ⟨p3, rfl, h1⟩, trivial⟩)
      cases g0
      refine ⟨.mk k0 l1 l2 l3 l4, ⟨c1, c2, c3, c4, rfl, a1, a2, a3, a4⟩, short_lit (H := H) (fun m hm => hwy m (DataW.weights_mem_each (j := 0) rfl rfl m ?_)), b1, b2, b3⟩
      rw [e0]; exact hm
set_option maxRecDepth 100000 in
theorem sels_in (d : Nat) : SelsIn d := by
  induction d with
  | zero =>
    intro H enc W base fuel v x h hw
    rcases Deep.open_slice Tryz.underlying40 h with ⟨hcs, _⟩ | ⟨x, len, cap, m, n, D, Pl, hcs, _⟩
    · cases hcs
      exact ⟨[], ⟨rfl, _, _, _, rfl⟩, fun _ h => by cases h⟩
    · cases hcs
      exact ⟨[], ⟨rfl, _, _, _, rfl⟩, fun _ h => by cases h⟩
  | succ d ih =>
    intro H enc W base fuel v x h hw
    have : Inhabited Sel := ⟨[]⟩
    have : Inhabited Pt := ⟨(0, .mk ⟨#[]⟩ [] [] [] [])⟩
    obtain ⟨l, h1, h2, _⟩ := row_in 1 (by decide) (fun c s => ∃ x, c = [x] ∧ PtsR (SelsR d W.heap.size W) W.heap.size W x s) SlOk Tryz.underlying40 cells_sel h hw (fun n cs y hy hwy hl => by
      obtain ⟨xs, n', _, rfl, _, hxl, hf⟩ := DataW.trod_struct Tryz.underlying50 hy
      match cs, hl with
      | [c0], _ =>
        match xs, hxl with
        | [y0], _ =>
          have f0 := hf 0 _ rfl
          simp only [List.getElem?_cons_zero] at f0
          have f0' : DataW.trod enc Tryz.prog W base (fun _ => true) true n' 48 [c0] = some y0 := f0
          simp only [DataW.weights, Tryz.underlying50] at hwy
          obtain ⟨ps, g1, g2, _⟩ := row_in 6 (by decide) (PtC (SelsR d W.heap.size W) W.heap.size W) (fun p : Pt => CpOk p.2) Tryz.underlying48 cells_part f0' (fun m hm => hwy m (DataW.weights_mem_each (j := 0) rfl rfl m hm)) (fun n cs y hy hwy hl => by
            obtain ⟨xs, n', _, rfl, _, hxl, hf⟩ := DataW.trod_struct Tryz.underlying84 hy
            match cs, hl with
            | [c0, c1, c2, c3, c4, c5], _ =>
              match xs, hxl with
              | [y0, y1], _ =>
                have f0 := hf 0 _ rfl
                have f1 := hf 1 _ rfl
                simp only [List.getElem?_cons_zero, List.getElem?_cons_succ] at f0 f1
                obtain ⟨k0, g0, _, _⟩ := DataW.trod_int Tryz.underlying3 f0
                have f1' : DataW.trod enc Tryz.prog W base (fun _ => true) true n' 82 [c1, c2, c3, c4, c5] = some y1 := f1
                simp only [DataW.weights, Tryz.underlying84] at hwy
                obtain ⟨c, h1, h2⟩ := comp_in d ih f1' (fun m hm => hwy m (DataW.weights_mem_each (j := 1) rfl rfl m hm))
                cases g0
                exact ⟨(k0, c), ⟨_, rfl, h1⟩, h2⟩)
          exact ⟨ps, ⟨c0, rfl, g1⟩, g2⟩)
    exact ⟨l, h1, h2⟩

/-- One selector as a value: its parts, ten lists deep. -/
def SelAt (s : Sel) (W : World) (v : Value) : Prop := ∃ x, v = .agg #[x] ∧ PartsR 10 W.heap.size W x s
set_option maxRecDepth 100000 in
theorem sel_in {H : Type} {enc : TypeId × Value → H} {W : World} {fuel : Nat} {cs : Array Value} {y : DataW H × List MemPlace}
    (hy : DataW.trod enc Tryz.prog W 0 (fun _ => true) true fuel 50 cs.toList = some y) (hw : ∀ n ∈ y.1.weights Tryz.prog 50, n ≤ reachBytes) :
    ∃ s : Sel, SelAt s W (.agg cs) ∧ SlOk s := by
  have : Inhabited Pt := ⟨(0, .mk ⟨#[]⟩ [] [] [] [])⟩
  obtain ⟨xs, n', _, rfl, hl, hxl, hf⟩ := DataW.trod_struct Tryz.underlying50 hy
  rw [cells_sel] at hl
  have hcs : ∃ c0, cs = #[c0] := by
    obtain ⟨l⟩ := cs
    match l, hl with
    | [c0], _ => exact ⟨_, rfl⟩
  obtain ⟨c0, rfl⟩ := hcs
  match xs, hxl with
  | [y0], _ =>
    have f0 := hf 0 _ rfl
    simp only [List.getElem?_cons_zero] at f0
    have f0' : DataW.trod enc Tryz.prog W 0 (fun _ => true) true n' 48 [c0] = some y0 := f0
    simp only [DataW.weights, Tryz.underlying50] at hw
    obtain ⟨ps, g1, g2, _⟩ := row_in 6 (by decide) (PtC (SelsR 10 W.heap.size W) W.heap.size W) (fun p : Pt => CpOk p.2) Tryz.underlying48 cells_part f0' (fun m hm => hw m (DataW.weights_mem_each (j := 0) rfl rfl m hm)) (fun n cs y hy hwy hl => by
      obtain ⟨xs, n', _, rfl, _, hxl, hf⟩ := DataW.trod_struct Tryz.underlying84 hy
      match cs, hl with
      | [c0, c1, c2, c3, c4, c5], _ =>
        match xs, hxl with
        | [y0, y1], _ =>
          have f0 := hf 0 _ rfl
          have f1 := hf 1 _ rfl
          simp only [List.getElem?_cons_zero, List.getElem?_cons_succ] at f0 f1
          obtain ⟨k0, g0, _, _⟩ := DataW.trod_int Tryz.underlying3 f0
          have f1' : DataW.trod enc Tryz.prog W 0 (fun _ => true) true n' 82 [c1, c2, c3, c4, c5] = some y1 := f1
          simp only [DataW.weights, Tryz.underlying84] at hwy
          obtain ⟨c, h1, h2⟩ := comp_in 10 (sels_in 10) f1' (fun m hm => hwy m (DataW.weights_mem_each (j := 1) rfl rfl m hm))
          cases g0
          exact ⟨(k0, c), ⟨_, rfl, h1⟩, h2⟩)
    exact ⟨ps, ⟨c0, rfl, g1⟩, g2⟩
set_option maxRecDepth 100000 in
theorem selAt_of_reads {H : Type} {enc : TypeId × Value → H} {W : World} {base : Nat} {v : Value} {d : DataW H} {p : List MemPlace}
    (h : DataW.Trod enc Tryz.prog W 0 (fun _ => true) true 50 v d p) (hv : Value.okWide Tryz.prog W .any base 50 v) (hw : ∀ n ∈ d.weights Tryz.prog 50, n ≤ reachBytes) :
    ∃ s : Sel, SelAt s W v ∧ SlOk s := by
  obtain ⟨cs, rfl, _⟩ := okWide_struct Tryz.underlying50 hv
  obtain ⟨fuel, hf⟩ := h
  exact sel_in (y := (d, p)) hf hw

end Go.Proofs.YtchfnnoabejlpabGreat.Wg
namespace Go.Proofs.YtchfnnoabejlpabGreat
open Go.Proofs.YtchfnnoabejlpabGreat.Tre
open Go Go.RowKit Go.ChangeShapes Go.WideShapes Go.ChangeAt Sl Wg
theorem selsAt_of_reads {H : Type} {enc : TypeId × Value → H} {W : World} {a : Option Addr} {len cap : Nat} {d : DataW H} {p : List MemPlace}
    (h : DataW.Trod enc Tryz.prog W 0 (fun _ => true) true 40 (.slice a len cap) d p) (hw : ∀ n ∈ d.weights Tryz.prog 40, n ≤ reachBytes) :
    ∃ l : List Sel, SelsR 11 W.heap.size W (.slice a len cap) l ∧ ∀ s ∈ l, SlOk s := by
  obtain ⟨fuel, hf⟩ := h
  obtain ⟨l, h1, h2⟩ := sels_in 11 (x := (d, p)) hf hw
  exact ⟨l, h1, h2⟩
end Go.Proofs.YtchfnnoabejlpabGreat

/- Rules and a node that came in as arguments. -/
namespace Go.Proofs.YtchfnnoabejlpabGreat.Bk
open Go.Proofs.YtchfnnoabejlpabGreat.Tre
open Go Go.RowKit Go.ChangeShapes Go.WideShapes Go.ChangeAt Sl Wg

def RlOk (l : List Rl) : Prop := ∀ r ∈ l, ∀ s ∈ r, SlOk s
theorem SlOk.nm {s : Sel} (h : SlOk s) : NmOk s := by
  intro b hb
  unfold selB at hb
  obtain ⟨p, hp, rfl⟩ := Option.map_eq_some_iff.1 hb
  obtain ⟨h1, h2, h3, _⟩ := h p (List.mem_of_getLast? hp)
  unfold bktOf
  split
  · rename_i x l e; exact h2 x (by rw [e]; exact List.mem_cons_self ..)
  · split
    · rename_i x l e; exact h3 x (by rw [e]; exact List.mem_cons_self ..)
    · split
      · show (0 : Nat) ≤ _; omega
      · exact h1
set_option maxRecDepth 100000 in
theorem cells_rule : Tryz.prog.cellsOf 43 = 2 := by kernel_rfl
set_option maxRecDepth 100000 in
theorem cells_node : Tryz.prog.cellsOf 37 = 5 := by kernel_rfl
set_option maxRecDepth 100000 in
theorem rulesAt_of_reads {H : Type} {enc : TypeId × Value → H} {W : World} {a : Option Addr} {len cap : Nat} {d : DataW H} {p : List MemPlace}
    (h : DataW.Trod enc Tryz.prog W 0 (fun _ => true) true 22 (.slice a len cap) d p) (hw : ∀ n ∈ d.weights Tryz.prog 22, n ≤ reachBytes) :
    ∃ l : List Rl, RulesR 11 W.heap.size W (.slice a len cap) l ∧ RlOk l := by
  obtain ⟨fuel, hf⟩ := h
  have : Inhabited Rl := ⟨[]⟩
  obtain ⟨l, h1, h2, _⟩ := row_in 2 (by decide) (fun c r => ∃ x p m k, c = [x, .slice p m k] ∧ SelsR 11 W.heap.size W x r) (fun r : Rl => ∀ s ∈ r, SlOk s) Tryz.underlying22 cells_rule (v := .slice a len cap) hf hw (fun n cs y hy hwy hl => by
    obtain ⟨xs, n', _, rfl, _, hxl, hf⟩ := DataW.trod_struct Tryz.underlying43 hy
    match cs, hl with
    | [c0, c1], _ =>
      match xs, hxl with
      | [y0, y1], _ =>
        have f0 := hf 0 _ rfl
        have f1 := hf 1 _ rfl
        simp only [List.getElem?_cons_zero, List.getElem?_cons_succ] at f0 f1
        have f0' : DataW.trod enc Tryz.prog W 0 (fun _ => true) true n' 40 [c0] = some y0 := f0
        have f1' : DataW.trod enc Tryz.prog W 0 (fun _ => true) true n' 41 [c1] = some y1 := f1
        simp only [DataW.weights, Tryz.underlying43] at hwy
        obtain ⟨ls, g1, g2⟩ := sels_in 11 f0' (fun m hm => hwy m (DataW.weights_mem_each (j := 0) rfl rfl m hm))
        have hc1 : ∃ p m k, c1 = .slice p m k := by
          rcases Deep.open_slice Tryz.underlying41 f1' with ⟨hcs, _⟩ | ⟨x, len, cap, m, n, D, Pl, hcs, _⟩
          · cases hcs; exact ⟨_, _, _, rfl⟩
          · cases hcs; exact ⟨_, _, _, rfl⟩
        obtain ⟨p, m, k, rfl⟩ := hc1
        exact ⟨ls, ⟨c0, p, m, k, rfl, g1⟩, g2⟩)
  exact ⟨l, h1, h2⟩
def NnOk (n : Nn) : Prop := n.tag.size ≤ 281474976710656 ∧ n.id.size ≤ 281474976710656 ∧ NsOk n.cls
theorem NnOk.ok {n : Nn} (h : NnOk n) (hl : n.cls.length ≤ 100) : n.ok := ⟨by unfold maxLen; have := h.1; omega, by unfold maxLen; have := h.2.1; omega, fun c hc => by unfold maxLen; have := h.2.2 c hc; omega, hl⟩
set_option maxRecDepth 100000 in
theorem node_in {H : Type} {enc : TypeId × Value → H} {W : World} {fuel : Nat} {cs : Array Value} {y : DataW H × List MemPlace}
    (hy : DataW.trod enc Tryz.prog W 0 (fun _ => true) true fuel 37 cs.toList = some y) (hw : ∀ n ∈ y.1.weights Tryz.prog 37, n ≤ reachBytes) :
    ∃ n : Nn, NodeAt n W (.agg cs) ∧ NnOk n := by
  obtain ⟨xs, n', _, rfl, hl, hxl, hf⟩ := DataW.trod_struct Tryz.underlying37 hy
  rw [cells_node] at hl
  have hcs : ∃ c0 c1 c2 c3 c4, cs = #[c0, c1, c2, c3, c4] := by
    obtain ⟨l⟩ := cs
    match l, hl with
    | [c0, c1, c2, c3, c4], _ => exact ⟨_, _, _, _, _, rfl⟩
  obtain ⟨c0, c1, c2, c3, c4, rfl⟩ := hcs
  match xs, hxl with
  | [y0, y1, y2, y3, y4], _ =>
    have f0 := hf 0 _ rfl
    have f1 := hf 1 _ rfl
    have f2 := hf 2 _ rfl
    have f3 := hf 3 _ rfl
    have f4 := hf 4 _ rfl
    simp only [List.getElem?_cons_zero, List.getElem?_cons_succ] at f0 f1 f2 f3 f4
    obtain ⟨k0, g0, e0, w0⟩ := DataW.trod_int Tryz.underlying3 f0
    obtain ⟨k1, g1, e1, _⟩ := DataW.trod_string Tryz.underlying9 f1
    obtain ⟨k2, g2, e2, _⟩ := DataW.trod_string Tryz.underlying9 f2
    simp only [DataW.weights, Tryz.underlying37] at hw
    have f3' : DataW.trod enc Tryz.prog W 0 (fun _ => true) true n' 34 [c3] = some y3 := f3
    have f4' : DataW.trod enc Tryz.prog W 0 (fun _ => true) true n' 35 [c4] = some y4 := f4
    obtain ⟨l3, a3, b3⟩ := names_in f3' (fun m hm => hw m (DataW.weights_mem_each (j := 3) rfl rfl m hm))
    have hc4 : ∃ p m k, c4 = .slice p m k := by
      rcases Deep.open_slice Tryz.underlying35 f4' with ⟨hcs, _⟩ | ⟨x, len, cap, m, n, D, Pl, hcs, _⟩
      · cases hcs; exact ⟨_, _, _, rfl⟩
      · cases hcs; exact ⟨_, _, _, rfl⟩
    cases g0
    cases g1
    cases g2
    refine ⟨⟨k1, k2, l3⟩, ⟨k0, c3, c4, rfl, a3, hc4⟩, short_lit (H := H) (fun m hm => hw m (DataW.weights_mem_each (j := 1) rfl rfl m ?_)), short_lit (H := H) (fun m hm => hw m (DataW.weights_mem_each (j := 2) rfl rfl m ?_)), b3⟩
    · rw [e1]; exact hm
    · rw [e2]; exact hm
set_option maxRecDepth 100000 in
theorem nodeAt_of_reads {H : Type} {enc : TypeId × Value → H} {W : World} {base : Nat} {v : Value} {d : DataW H} {p : List MemPlace}
    (h : DataW.Trod enc Tryz.prog W 0 (fun _ => true) true 37 v d p) (hv : Value.okWide Tryz.prog W .any base 37 v) (hw : ∀ n ∈ d.weights Tryz.prog 37, n ≤ reachBytes) :
    ∃ n : Nn, NodeAt n W v ∧ NnOk n := by
  obtain ⟨cs, rfl, _⟩ := okWide_struct Tryz.underlying37 hv
  obtain ⟨fuel, hf⟩ := h
  exact node_in (y := (d, p)) hf hw

/-! ### the bound of the second form -/
theorem bulk_one {H : Type} (d : DataW H) : 1 ≤ Rows.uptoBulk d := by
  cases d with
  | lit l => cases l <;> simp [Rows.uptoBulk]
  | nil => simp [Rows.uptoBulk]
  | ptr d => simp [Rows.uptoBulk]
  | slice elems spare => simp [Rows.uptoBulk]
  | agg parts => simp [Rows.uptoBulk]
  | iface t d => simp [Rows.uptoBulk]
  | map entries => simp [Rows.uptoBulk]
  | held h => simp [Rows.uptoBulk]
theorem bulk_len {H : Type} (l : List (DataW H)) : l.length ≤ Rows.uptoBulkAll l := by
  induction l with
  | nil => simp [Rows.uptoBulkAll]
  | cons x r ih => have := bulk_one x; simp only [Rows.uptoBulkAll, List.length_cons]; omega
theorem bulk_part {H : Type} {d : DataW H} {l : List (DataW H)} (h : d ∈ l) : Rows.uptoBulk d ≤ Rows.uptoBulkAll l := by
  induction l with
  | nil => cases h
  | cons x r ih =>
    simp only [Rows.uptoBulkAll]
    cases List.mem_cons.1 h with
    | inl e => subst e; omega
    | inr e => have := ih e; omega
set_option maxRecDepth 100000 in
theorem rules_bulk {H : Type} {enc : TypeId × Value → H} {W : World} {a : Option Addr} {len cap : Nat} {d : DataW H} {p : List MemPlace} {l : List Rl} {ds : List (DataW H)}
    (h : DataW.Trod enc Tryz.prog W 0 (fun _ => true) true 22 (.slice a len cap) d p) (hl : RulesR 11 W.heap.size W (.slice a len cap) l) (hk : Rows.uptoSmall H ds = true) (hd : d ∈ ds) : l.length ≤ 1048576 := by
  have hb : Rows.uptoBulkAll ds ≤ 1048576 := of_decide_eq_true hk
  have hp := bulk_part hd
  obtain ⟨q, c, e⟩ := RowT.len hl
  cases e
  obtain ⟨fuel, hf⟩ := h
  have hf' : DataW.trod enc Tryz.prog W 0 (fun _ => true) true fuel 22 [.slice a l.length cap] = some (d, p) := hf
  rcases Deep.open_slice Tryz.underlying22 hf' with ⟨hcs, _⟩ | ⟨x, len, cap', m, n, D, Pl, hcs, _, h1, h2, h3, h4, _⟩
  · have h6 : l.length = 0 := by
      simp only [List.cons.injEq, and_true, Value.slice.injEq] at hcs
      exact hcs.2.1
    omega
  · cases hcs
    have e : d = .slice ((List.range l.length).map D) ((List.range (m - l.length)).map fun k => D (l.length + k)) := by
      first | exact congrArg Prod.fst h4 | (have := congrArg Prod.fst h4; simpa using this)
    rw [e] at hp
    have h5 := bulk_len ((List.range l.length).map D)
    rw [List.length_map, List.length_range] at h5
    simp only [Rows.uptoBulk] at hp
    omega

end Go.Proofs.YtchfnnoabejlpabGreat.Bk
