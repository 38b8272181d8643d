/- Selectors that came in as arguments of the second form: all texts of them are in bounds, to every depth. -/
import Derived.Test.YtchfnnoabejlpaaSelArgs
import Derived.Test.YtchfnnoabejlpaaWgGa
namespace Go.Proofs.Ytchfnnoabejlpaa.Wg
open Go.Proofs.Ytchfnnoabejlpaa.Tre
open Go Go.RowKit Go.ChangeShapes Go.WideShapes Go.ChangeAt Sl

/-! ### the bound of the second form -/
theorem bulk_len {H : Type} : ∀ l : List (DataW H), l.length ≤ Rows.uptoBulkAll l
  | [] => Nat.zero_le _
  | d :: r => by
    have h1 : 1 ≤ Rows.uptoBulk d := by cases d with
      | lit l => cases l <;> simp [Rows.uptoBulk]
      | nil => simp [Rows.uptoBulk]
      | ptr d => simp [Rows.uptoBulk]
      | slice elems spare => simp [Rows.uptoBulk]
      | agg parts => simp [Rows.uptoBulk]
      | iface t d => simp [Rows.uptoBulk]
      | map entries => simp [Rows.uptoBulk]
      | held h => simp [Rows.uptoBulk]
    have := bulk_len r
    simp only [Rows.uptoBulkAll, List.length_cons]; omega
theorem bulk_lenE {H : Type} : ∀ l : List (Lit × DataW H), l.length ≤ Rows.uptoBulkEntries l
  | [] => Nat.zero_le _
  | x :: r => by
    have h1 : 1 ≤ Rows.uptoBulkEntry x := by
      obtain ⟨a, d⟩ := x
      cases a <;> simp [Rows.uptoBulkEntry]
    have := bulk_lenE r
    simp only [Rows.uptoBulkEntries, List.length_cons]; omega
theorem bulk_part {H : Type} {d : DataW H} {l : List (DataW H)} (h : d ∈ l) : Rows.uptoBulk d ≤ Rows.uptoBulkAll l := by
  induction l with
  | nil => cases h
  | cons x r ih =>
    simp only [Rows.uptoBulkAll]
    cases List.mem_cons.1 h with
    | inl e => subst e; omega
    | inr e => have := ih e; omega
theorem size_lit {H : Type} {R : Nat} {s : ByteArray} (h : Rows.uptoBulk (DataW.lit (.string s.data.toList) : DataW H) ≤ R) : s.size ≤ R := by
  simp only [Rows.uptoBulk, Array.length_toList] at h
  show s.data.size ≤ R
  omega
set_option maxRecDepth 100000 in
/-- A slice of things, each opened by itself. -/
theorem row_inR {R : Nat} {H : Type} {enc : TypeId × Value → H} {W : World} {base fuel : Nat} {v : Value} {x : DataW H × List MemPlace} {t e : TypeId} {α : Type} [Inhabited α] (sz : Nat) (hz : 0 < sz) (T : List Value → α → Prop) (Ok : α → Prop)
    (ht : Try.prog.underlying t = some (.slice e)) (hcells : Try.prog.cellsOf e = sz) (h : DataW.trod enc Try.prog W base (fun _ => true) true fuel t [v] = some x) (hw : Rows.uptoBulk x.1 ≤ R)
    (each : ∀ n cs y, DataW.trod enc Try.prog W base (fun _ => true) true n e cs = some y → Rows.uptoBulk y.1 ≤ R → cs.length = sz → ∃ a : α, T cs a ∧ Ok a) :
    ∃ l : List α, RowT sz T W.heap.size W v l ∧ (∀ a ∈ l, Ok a) ∧ l.length ≤ R := by
  rcases Deep.open_slice ht h with ⟨hcs, _⟩ | ⟨x, len, cap, m, n, D, Pl, hcs, _, hl, hm, hmm, rfl, hel⟩
  · cases hcs
    exact ⟨[], .inl ⟨rfl, _, _, rfl⟩, fun _ h => (by cases h), by simp⟩
  · cases hcs
    simp only [if_true] at hmm
    subst hmm
    rw [hcells] at hel
    simp only [Rows.uptoBulk] at hw
    have hD : ∀ i, i < len → Rows.uptoBulk (D i) ≤ R := fun i hi => by
      have := bulk_part (l := (List.range len).map D) (List.mem_map.2 ⟨i, List.mem_range.2 hi, rfl⟩)
      omega
    have one : ∀ i, i < len → ∃ a : α × List Value, Ok a.1 ∧ T a.2 a.1 ∧ a.2.length = sz ∧ ∀ j u, a.2[j]? = some u → W.cell? ((x.add (i * sz)).add j) = some u := fun i hi => by
      obtain ⟨cs', hcs, htr⟩ := hel i (by omega)
      obtain ⟨_, hcl, hcc⟩ := World.cells?_some hcs
      obtain ⟨a, ha, hg⟩ := each n cs' _ htr (hD i hi) hcl
      refine ⟨(a, cs'), hg, ha, hcl, fun j u hj => ?_⟩
      have hjl : j < sz := by rw [← hcl]; exact (List.getElem?_eq_some_iff.1 hj).1
      rw [hcc j hjl, hj]
    obtain ⟨F, hF⟩ := Deep.choose_lt one
    have hbytes : len ≤ R := by
      have := bulk_len ((List.range len).map D)
      rw [List.length_map, List.length_range] at this
      omega
    refine ⟨(List.range len).map (fun i => (F i).1), ?_, fun a ha => ?_, by simpa using hbytes⟩
    · by_cases h0 : len = 0
      · subst h0
        exact .inl ⟨rfl, _, _, rfl⟩
      · obtain ⟨b, off, spot⟩ := x
        obtain ⟨_, _, hf0, hF0⟩ := hF 0 (by omega)
        have hex : ∃ u, (F 0).2[0]? = some u := ⟨_, List.getElem?_eq_getElem (by rw [hf0]; exact hz)⟩
        obtain ⟨u0, hu0⟩ := hex
        have hc0 := hF0 0 u0 hu0
        have hspot : spot = none := by simpa [Addr.add] using World.cell?_spot hc0
        subst hspot
        have key : ∀ i j, (((⟨b, off, none⟩ : Addr).add (i * sz)).add j) = ⟨b, off + i * sz + j, none⟩ := fun i j => by rw [addr_add', addr_add']
        refine .inr ⟨b, off, _, by simp, by simpa using hl, hm, World.block_lt_of_cell? W ⟨b, off, none⟩ (by rw [key] at hc0; simpa using hc0), fun j a hj => ?_⟩
        rw [List.getElem?_map] at hj
        obtain ⟨k, hk, rfl⟩ := Option.map_eq_some_iff.1 hj
        obtain ⟨h1, h2⟩ := List.getElem?_eq_some_iff.1 hk
        simp at h1 h2
        subst h2
        obtain ⟨_, g2, g3, g4⟩ := hF j (by omega)
        refine ⟨(F j).2, g3, g2, fun i u hu => ?_⟩
        have := g4 i u hu
        rwa [key] at this
    · obtain ⟨i, hi, rfl⟩ := List.mem_map.1 ha
      exact (hF i (List.mem_range.1 hi)).1

set_option maxRecDepth 100000 in
theorem names_inR {R : Nat} {H : Type} {enc : TypeId × Value → H} {W : World} {base fuel : Nat} {v : Value} {x : DataW H × List MemPlace} (h : DataW.trod enc Try.prog W base (fun _ => true) true fuel 36 [v] = some x) (hw : Rows.uptoBulk x.1 ≤ R) :
    ∃ l : List ByteArray, RowT 1 StrC W.heap.size W v l ∧ ∀ s ∈ l, s.size ≤ R := by
  have : Inhabited ByteArray := ⟨⟨#[]⟩⟩
  obtain ⟨l, h1, h2, _⟩ := row_inR (R := R) 1 (by decide) StrC (fun s => s.size ≤ R) Try.underlying36 cells_str h hw (fun n cs y hy hwy hl => by
    obtain ⟨s, rfl, hys, _⟩ := DataW.trod_string Try.underlying9 hy
    rw [hys] at hwy
    exact ⟨s, rfl, size_lit hwy⟩)
  exact ⟨l, h1, h2⟩
set_option maxRecDepth 100000 in
theorem attrs_inR {R : Nat} {H : Type} {enc : TypeId × Value → H} {W : World} {base fuel : Nat} {v : Value} {x : DataW H × List MemPlace} (h : DataW.trod enc Try.prog W base (fun _ => true) true fuel 37 [v] = some x) (hw : Rows.uptoBulk x.1 ≤ R) :
    ∃ l : List At, RowT 3 AtC W.heap.size W v l ∧ ∀ a ∈ l, a.name.size ≤ R ∧ a.text.size ≤ R ∧ (Lit.int .i64 a.op).wf = true := by
  have : Inhabited At := ⟨⟨⟨#[]⟩, 0, ⟨#[]⟩⟩⟩
  obtain ⟨l, h1, h2, _⟩ := row_inR (R := R) 3 (by decide) AtC (fun a : At => a.name.size ≤ R ∧ a.text.size ≤ R ∧ (Lit.int .i64 a.op).wf = true) Try.underlying37 cells_attr h hw (fun n cs y hy hwy hl => by
    obtain ⟨xs, n', _, rfl, _, hxl, hf⟩ := DataW.trod_struct Try.underlying63 hy
    match cs, hl with
    | [c0, c1, c2], _ =>
      match xs, hxl with
      | [y0, y1, y2], _ =>
        have f0 := hf 0 _ rfl
        have f1 := hf 1 _ rfl
        have f2 := hf 2 _ rfl
        simp only [List.getElem?_cons_zero, List.getElem?_cons_succ] at f0 f1 f2
        obtain ⟨k0, g0, e0, _⟩ := DataW.trod_string Try.underlying9 f0
        obtain ⟨k1, g1, e1, w1⟩ := DataW.trod_int Try.underlying3 f1
        obtain ⟨k2, g2, e2, _⟩ := DataW.trod_string Try.underlying9 f2
        cases g0
        cases g1
        cases g2
        simp only [Rows.uptoBulk, Rows.uptoBulkAll, List.map_cons, List.map_nil] at hwy
        have z0 : Rows.uptoBulk y0.1 ≤ R := by omega
        have z2 : Rows.uptoBulk y2.1 ≤ R := by omega
        rw [e0] at z0
        rw [e2] at z2
        exact ⟨⟨k0, k1, k2⟩, rfl, size_lit z0, size_lit z2, w1⟩)
  exact ⟨l, h1, h2⟩
/-- A compound's texts and numbers are in bounds. -/
def CpR (R : Nat) (c : Cp) : Prop := c.tag.size ≤ R ∧ (∀ x ∈ c.ids, x.size ≤ R) ∧ (∀ x ∈ c.classes, x.size ≤ R) ∧ (∀ a ∈ c.attrs, a.name.size ≤ R ∧ a.text.size ≤ R ∧ (Lit.int .i64 a.op).wf = true) ∧ ∀ q ∈ c.pss, (Lit.int .i64 q.a).wf = true ∧ (Lit.int .i64 q.b).wf = true
/-- So are those of all lists that lie in it, so deep. -/
def OkD (R : Nat) : Nat → Sel → Prop
  | 0, s => ∀ p ∈ s, CpR R p.2
  | d + 1, s => ∀ p ∈ s, CpR R p.2 ∧ ∀ q ∈ p.2.pss, ∀ s' ∈ q.list, OkD R d s'
def OkC (R : Nat) (d : Nat) (c : Cp) : Prop := CpR R c ∧ match d with
  | 0 => True
  | d + 1 => ∀ q ∈ c.pss, ∀ s' ∈ q.list, OkD R d s'
theorem OkD_of {R d : Nat} {s : Sel} (h : ∀ p ∈ s, OkC R d p.2) : OkD R d s := by
  cases d with
  | zero => exact fun p hp => (h p hp).1
  | succ d => exact h
def SelsInR (R d : Nat) : Prop := ∀ {H : Type} {enc : TypeId × Value → H} {W : World} {base fuel : Nat} {v : Value} {x : DataW H × List MemPlace}, DataW.trod enc Try.prog W base (fun _ => true) true fuel 28 [v] = some x → Rows.uptoBulk x.1 ≤ R →
    ∃ l : List Sel, SelsR d W.heap.size W v l ∧ ∀ s ∈ l, OkD R (d - 1) s
set_option maxRecDepth 100000 in
theorem comp_inR {R : Nat} (d : Nat) (HS : SelsInR R d) {H : Type} {enc : TypeId × Value → H} {W : World} {base n : Nat} {cs : List Value} {y : DataW H × List MemPlace} (hy : DataW.trod enc Try.prog W base (fun _ => true) true n 40 cs = some y) (hwy : Rows.uptoBulk y.1 ≤ R) :
    ∃ c : Cp, CpC (SelsR d W.heap.size W) W.heap.size W cs c ∧ OkC R d c := by
  have : Inhabited Ps := ⟨.mk 0 0 0 []⟩
  obtain ⟨xs, n', _, rfl, hl, hxl, hf⟩ := DataW.trod_struct Try.underlying40 hy
  rw [cells_comp] at hl
  match cs, hl with
  | [c0, c1, c2, c3, c4], _ =>
    match xs, hxl with
    | [y0, y1, y2, y3, y4], _ =>
      have f0 := hf 0 _ rfl
      have f1 := hf 1 _ rfl
      have f2 := hf 2 _ rfl
      have f3 := hf 3 _ rfl
      have f4 := hf 4 _ rfl
      simp only [List.getElem?_cons_zero, List.getElem?_cons_succ] at f0 f1 f2 f3 f4
      obtain ⟨k0, g0, e0, _⟩ := DataW.trod_string Try.underlying9 f0
      simp only [Rows.uptoBulk, Rows.uptoBulkAll, List.map_cons, List.map_nil] at hwy
      have f1' : DataW.trod enc Try.prog W base (fun _ => true) true n' 36 [c1] = some y1 := f1
      have f2' : DataW.trod enc Try.prog W base (fun _ => true) true n' 36 [c2] = some y2 := f2
      have f3' : DataW.trod enc Try.prog W base (fun _ => true) true n' 37 [c3] = some y3 := f3
      have f4' : DataW.trod enc Try.prog W base (fun _ => true) true n' 38 [c4] = some y4 := f4
      obtain ⟨l1, a1, b1⟩ := names_inR (R := R) f1' (by omega)
      obtain ⟨l2, a2, b2⟩ := names_inR (R := R) f2' (by omega)
      obtain ⟨l3, a3, b3⟩ := attrs_inR (R := R) f3' (by omega)
      obtain ⟨l4, a4, b4, _⟩ := row_inR (R := R) 4 (by decide) (PsC (SelsR d W.heap.size W)) (fun q : Ps => ((Lit.int .i64 q.a).wf = true ∧ (Lit.int .i64 q.b).wf = true) ∧ ∀ s' ∈ q.list, OkD R (d - 1) s') Try.underlying38 cells_ps f4' (by omega) (fun n cs y hy hwy hl => by
        obtain ⟨xs, n', _, rfl, _, hxl, hf⟩ := DataW.trod_struct Try.underlying56 hy
        match cs, hl with
        | [p0, p1, p2, p3], _ =>
          match xs, hxl with
          | [z0, z1, z2, z3], _ =>
            have f0 := hf 0 _ rfl
            have f1 := hf 1 _ rfl
            have f2 := hf 2 _ rfl
            have f3 := hf 3 _ rfl
            simp only [List.getElem?_cons_zero, List.getElem?_cons_succ] at f0 f1 f2 f3
            obtain ⟨k0, g0, _, _⟩ := DataW.trod_int Try.underlying3 f0
            obtain ⟨k1, g1, _, w1⟩ := DataW.trod_int Try.underlying3 f1
            obtain ⟨k2, g2, _, w2⟩ := DataW.trod_int Try.underlying3 f2
            have f3' : DataW.trod enc Try.prog W base (fun _ => true) true n' 28 [p3] = some z3 := f3
            simp only [Rows.uptoBulk, Rows.uptoBulkAll, List.map_cons, List.map_nil] at hwy
            obtain ⟨ls, h1, h2⟩ := HS f3' (by omega)
            cases g0
            cases g1
            cases g2
            exact ⟨.mk k0 k1 k2 ls, ⟨p3, rfl, h1⟩, ⟨w1, w2⟩, h2⟩)
      have z0 : Rows.uptoBulk y0.1 ≤ R := by omega
      rw [e0] at z0
      cases g0
      refine ⟨.mk k0 l1 l2 l3 l4, ⟨c1, c2, c3, c4, rfl, a1, a2, a3, a4⟩, ⟨size_lit z0, b1, b2, b3, fun q hq => (b4 q hq).1⟩, ?_⟩
      · cases d with
        | zero => trivial
        | succ d => exact fun q hq s' hs' => (b4 q hq).2 s' hs'
set_option maxRecDepth 100000 in
theorem sels_inR (R : Nat) (d : Nat) : SelsInR R d := by
  induction d with
  | zero =>
    intro H enc W base fuel v x h hw
    rcases Deep.open_slice Try.underlying28 h with ⟨hcs, _⟩ | ⟨x, len, cap, m, n, D, Pl, hcs, _⟩
    · cases hcs
      exact ⟨[], ⟨rfl, _, _, _, rfl⟩, fun _ h => by cases h⟩
    · cases hcs
      exact ⟨[], ⟨rfl, _, _, _, rfl⟩, fun _ h => by cases h⟩
  | succ d ih =>
    intro H enc W base fuel v x h hw
    have : Inhabited Sel := ⟨[]⟩
    have : Inhabited Pt := ⟨(0, .mk ⟨#[]⟩ [] [] [] [])⟩
    obtain ⟨l, h1, h2, _⟩ := row_inR (R := R) 1 (by decide) (fun c s => ∃ x, c = [x] ∧ PtsR (SelsR d W.heap.size W) W.heap.size W x s) (OkD R d) Try.underlying28 cells_sel h hw (fun n cs y hy hwy hl => by
      obtain ⟨xs, n', _, rfl, _, hxl, hf⟩ := DataW.trod_struct Try.underlying25 hy
      match cs, hl with
      | [c0], _ =>
        match xs, hxl with
        | [y0], _ =>
          have f0 := hf 0 _ rfl
          simp only [List.getElem?_cons_zero] at f0
          have f0' : DataW.trod enc Try.prog W base (fun _ => true) true n' 23 [c0] = some y0 := f0
          simp only [Rows.uptoBulk, Rows.uptoBulkAll, List.map_cons, List.map_nil] at hwy
          obtain ⟨ps, g1, g2, _⟩ := row_inR (R := R) 6 (by decide) (PtC (SelsR d W.heap.size W) W.heap.size W) (fun p : Pt => OkC R d p.2) Try.underlying23 cells_part f0' (by omega) (fun n cs y hy hwy hl => by
            obtain ⟨xs, n', _, rfl, _, hxl, hf⟩ := DataW.trod_struct Try.underlying42 hy
            match cs, hl with
            | [c0, c1, c2, c3, c4, c5], _ =>
              match xs, hxl with
              | [y0, y1], _ =>
                have f0 := hf 0 _ rfl
                have f1 := hf 1 _ rfl
                simp only [List.getElem?_cons_zero, List.getElem?_cons_succ] at f0 f1
                obtain ⟨k0, g0, _, _⟩ := DataW.trod_int Try.underlying3 f0
                have f1' : DataW.trod enc Try.prog W base (fun _ => true) true n' 40 [c1, c2, c3, c4, c5] = some y1 := f1
                simp only [Rows.uptoBulk, Rows.uptoBulkAll, List.map_cons, List.map_nil] at hwy
                obtain ⟨c, h1, h2⟩ := comp_inR (R := R) d ih f1' (by omega)
                cases g0
                exact ⟨(k0, c), ⟨_, rfl, h1⟩, h2⟩)
          exact ⟨ps, ⟨c0, rfl, g1⟩, OkD_of g2⟩)
    exact ⟨l, h1, h2⟩

set_option maxRecDepth 100000 in
theorem sel_inR {R : Nat} {H : Type} {enc : TypeId × Value → H} {W : World} {fuel : Nat} {cs : Array Value} {y : DataW H × List MemPlace}
    (hy : DataW.trod enc Try.prog W 0 (fun _ => true) true fuel 25 cs.toList = some y) (hw : Rows.uptoBulk y.1 ≤ R) :
    ∃ s : Sel, SelAt s W (.agg cs) ∧ OkD R 10 s := by
  have : Inhabited Pt := ⟨(0, .mk ⟨#[]⟩ [] [] [] [])⟩
  obtain ⟨xs, n', _, rfl, hl, hxl, hf⟩ := DataW.trod_struct Try.underlying25 hy
  rw [cells_sel] at hl
  have hcs : ∃ c0, cs = #[c0] := by
    obtain ⟨l⟩ := cs
    match l, hl with
    | [c0], _ => exact ⟨_, rfl⟩
  obtain ⟨c0, rfl⟩ := hcs
  match xs, hxl with
  | [y0], _ =>
    have f0 := hf 0 _ rfl
    simp only [List.getElem?_cons_zero] at f0
    have f0' : DataW.trod enc Try.prog W 0 (fun _ => true) true n' 23 [c0] = some y0 := f0
    simp only [Rows.uptoBulk, Rows.uptoBulkAll, List.map_cons, List.map_nil] at hw
    obtain ⟨ps, g1, g2, _⟩ := row_inR (R := R) 6 (by decide) (PtC (SelsR 10 W.heap.size W) W.heap.size W) (fun p : Pt => OkC R 10 p.2) Try.underlying23 cells_part f0' (by omega) (fun n cs y hy hwy hl => by
      obtain ⟨xs, n', _, rfl, _, hxl, hf⟩ := DataW.trod_struct Try.underlying42 hy
      match cs, hl with
      | [c0, c1, c2, c3, c4, c5], _ =>
        match xs, hxl with
        | [y0, y1], _ =>
          have f0 := hf 0 _ rfl
          have f1 := hf 1 _ rfl
          simp only [List.getElem?_cons_zero, List.getElem?_cons_succ] at f0 f1
          obtain ⟨k0, g0, _, _⟩ := DataW.trod_int Try.underlying3 f0
          have f1' : DataW.trod enc Try.prog W 0 (fun _ => true) true n' 40 [c1, c2, c3, c4, c5] = some y1 := f1
          simp only [Rows.uptoBulk, Rows.uptoBulkAll, List.map_cons, List.map_nil] at hwy
          obtain ⟨c, h1, h2⟩ := comp_inR (R := R) 10 (sels_inR R 10) f1' (by omega)
          cases g0
          exact ⟨(k0, c), ⟨_, rfl, h1⟩, h2⟩)
    exact ⟨ps, ⟨c0, rfl, g1⟩, OkD_of g2⟩

/-! ### cut less deep -/
theorem CpR_cut {R d : Nat} {c : Cp} (h : CpR R c) : CpR R (cutC d c) := by
  obtain ⟨h1, h2, h3, h4, h5⟩ := h
  refine ⟨h1, h2, h3, h4, fun q hq => ?_⟩
  obtain ⟨q', hq', rfl⟩ := List.mem_map.1 hq
  exact h5 q' hq'
theorem OkD_cut {R : Nat} : ∀ (d : Nat) {s : Sel}, OkD R (d + 1) s → OkD R d (cutS d s)
  | 0, s, h => fun p hp => by
    obtain ⟨p', hp', rfl⟩ := List.mem_map.1 hp
    exact CpR_cut (h p' hp').1
  | d + 1, s, h => fun p hp => by
    obtain ⟨p', hp', rfl⟩ := List.mem_map.1 hp
    refine ⟨CpR_cut (h p' hp').1, fun q hq s' hs' => ?_⟩
    obtain ⟨q', hq', rfl⟩ := List.mem_map.1 hq
    have hs2 : s' ∈ q'.list.map (cutS d) := hs'
    obtain ⟨s'', hs'', rfl⟩ := List.mem_map.1 hs2
    exact OkD_cut d ((h p' hp').2 q' hq' s'' hs'')


end Go.Proofs.Ytchfnnoabejlpaa.Wg
namespace Go.Proofs.Ytchfnnoabejlpaa
open Go.Proofs.Ytchfnnoabejlpaa.Tre
open Go Go.RowKit Go.ChangeShapes Go.WideShapes Go.ChangeAt Sl Wg
theorem selsUp_of_reads {H : Type} {enc : TypeId × Value → H} {W : World} {a : Option Addr} {len cap : Nat} {d : DataW H} {p : List MemPlace} {ds : List (DataW H)}
    (h : DataW.Trod enc Try.prog W 0 (fun _ => true) true 28 (.slice a len cap) d p) (hk : Rows.uptoSmall H ds = true) (hd : d ∈ ds) :
    ∃ l : List Sel, SelsR 11 W.heap.size W (.slice a len cap) l ∧ ∀ s ∈ l, OkD 1048576 10 s := by
  obtain ⟨fuel, hf⟩ := h
  have h2 : Rows.uptoBulkAll ds ≤ 1048576 := of_decide_eq_true hk
  obtain ⟨l, h1, h2⟩ := sels_inR 1048576 11 (x := (d, p)) hf (Nat.le_trans (bulk_part hd) h2)
  exact ⟨l, h1, h2⟩
end Go.Proofs.Ytchfnnoabejlpaa
