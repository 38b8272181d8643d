/- Selectors and rules that came in as arguments: what the walk is told of them. -/
import Derived.Test.YtcdimmabnklcnaaWgMem
import Derived.Test.YtcdimmabnklcnaaWgArgs
namespace Go.Proofs.Ytcdimmabnklcnaa.Wg
open Go.Proofs.Ytcdimmabnklcnaa.Tre
open Go Go.RowKit Go.ChangeShapes Go.WideShapes Go.ChangeAt Sl

set_option maxRecDepth 100000 in
theorem weights_all {H : Type} {P : Program} {e : TypeId} : ∀ {ds : List (DataW H)} {d : DataW H}, d ∈ ds → ∀ n ∈ d.weights P e, n ∈ DataW.weightsAll P e ds
  | x :: ds, d, h, n, hn => by
    rw [DataW.weightsAll, List.mem_append]
    rcases List.mem_cons.1 h with rfl | h
    · exact .inl hn
    · exact .inr (weights_all h n hn)
theorem addr_add' (bk off j : Nat) : (⟨bk, off, none⟩ : Addr).add j = ⟨bk, off + j, none⟩ := by
  unfold Addr.add
  split
  · simp_all
  · rfl

set_option maxRecDepth 100000 in
/-- A slice of things, each opened by itself. -/
theorem row_in {H : Type} {enc : TypeId × Value → H} {W : World} {base fuel : Nat} {v : Value} {x : DataW H × List MemPlace} {t e : TypeId} {α : Type} [Inhabited α] (sz : Nat) (hz : 0 < sz) (T : List Value → α → Prop) (Ok : α → Prop)
    (ht : Try.prog.underlying t = some (.slice e)) (hcells : Try.prog.cellsOf e = sz) (h : DataW.trod enc Try.prog W base (fun _ => true) true fuel t [v] = some x) (hw : ∀ n ∈ x.1.weights Try.prog t, n ≤ reachBytes)
    (each : ∀ n cs y, DataW.trod enc Try.prog W base (fun _ => true) true n e cs = some y → (∀ m ∈ y.1.weights Try.prog e, m ≤ reachBytes) → cs.length = sz → ∃ a : α, T cs a ∧ Ok a) :
    ∃ l : List α, RowT sz T W.heap.size W v l ∧ (∀ a ∈ l, Ok a) ∧ l.length * Try.prog.bytesOf e ≤ reachBytes := by
  rcases Deep.open_slice ht h with ⟨hcs, _⟩ | ⟨x, len, cap, m, n, D, Pl, hcs, _, hl, hm, hmm, rfl, hel⟩
  · cases hcs
    exact ⟨[], .inl ⟨rfl, _, _, rfl⟩, fun _ h => (by cases h), by simp⟩
  · cases hcs
    simp only [if_true] at hmm
    subst hmm
    rw [hcells] at hel
    simp only [DataW.weights, ht] at hw
    have hD : ∀ i, i < len → ∀ k ∈ (D i).weights Try.prog e, k ≤ reachBytes := fun i hi k hk => hw k (List.mem_cons_of_mem _ (List.mem_append_left _ (weights_all (List.mem_map.2 ⟨i, List.mem_range.2 hi, rfl⟩) k hk)))
    have one : ∀ i, i < len → ∃ a : α × List Value, Ok a.1 ∧ T a.2 a.1 ∧ a.2.length = sz ∧ ∀ j u, a.2[j]? = some u → W.cell? ((x.add (i * sz)).add j) = some u := fun i hi => by
      obtain ⟨cs', hcs, htr⟩ := hel i (by omega)
      obtain ⟨_, hcl, hcc⟩ := World.cells?_some hcs
      obtain ⟨a, ha, hg⟩ := each n cs' _ htr (hD i hi) hcl
      refine ⟨(a, cs'), hg, ha, hcl, fun j u hj => ?_⟩
      have hjl : j < sz := by rw [← hcl]; exact (List.getElem?_eq_some_iff.1 hj).1
      rw [hcc j hjl, hj]
    obtain ⟨F, hF⟩ := Deep.choose_lt one
    have hbytes : len * Try.prog.bytesOf e ≤ reachBytes := by
      have h1 := hw _ (List.mem_cons_self ..)
      simp only [List.length_map, List.length_range] at h1
      exact Nat.le_trans (Nat.mul_le_mul_right _ (Nat.le_add_right _ _)) h1
    refine ⟨(List.range len).map (fun i => (F i).1), ?_, fun a ha => ?_, by simpa using hbytes⟩
    · by_cases h0 : len = 0
      · subst h0
        exact .inl ⟨rfl, _, _, rfl⟩
      · obtain ⟨b, off, spot⟩ := x
        obtain ⟨_, _, hf0, hF0⟩ := hF 0 (by omega)
        have hex : ∃ u, (F 0).2[0]? = some u := ⟨_, List.getElem?_eq_getElem (by rw [hf0]; exact hz)⟩
        obtain ⟨u0, hu0⟩ := hex
        have hc0 := hF0 0 u0 hu0
        have hspot : spot = none := by simpa [Addr.add] using World.cell?_spot hc0
        subst hspot
        have key : ∀ i j, (((⟨b, off, none⟩ : Addr).add (i * sz)).add j) = ⟨b, off + i * sz + j, none⟩ := fun i j => by rw [addr_add', addr_add']
        refine .inr ⟨b, off, _, by simp, by simpa using hl, hm, World.block_lt_of_cell? W ⟨b, off, none⟩ (by rw [key] at hc0; simpa using hc0), fun j a hj => ?_⟩
        rw [List.getElem?_map] at hj
        obtain ⟨k, hk, rfl⟩ := Option.map_eq_some_iff.1 hj
        obtain ⟨h1, h2⟩ := List.getElem?_eq_some_iff.1 hk
        simp at h1 h2
        subst h2
        obtain ⟨_, g2, g3, g4⟩ := hF j (by omega)
        refine ⟨(F j).2, g3, g2, fun i u hu => ?_⟩
        have := g4 i u hu
        rwa [key] at this
    · obtain ⟨i, hi, rfl⟩ := List.mem_map.1 ha
      exact (hF i (List.mem_range.1 hi)).1

def NsOk (l : List ByteArray) : Prop := ∀ s ∈ l, s.size ≤ 281474976710656
set_option maxRecDepth 100000 in
theorem cells_str : Try.prog.cellsOf 9 = 1 := by kernel_rfl
set_option maxRecDepth 100000 in
theorem cells_attr : Try.prog.cellsOf 86 = 3 := by kernel_rfl
set_option maxRecDepth 100000 in
theorem cells_ps : Try.prog.cellsOf 80 = 4 := by kernel_rfl
set_option maxRecDepth 100000 in
theorem cells_part : Try.prog.cellsOf 63 = 6 := by kernel_rfl
set_option maxRecDepth 100000 in
theorem cells_comp : Try.prog.cellsOf 61 = 5 := by kernel_rfl
set_option maxRecDepth 100000 in
theorem cells_sel : Try.prog.cellsOf 39 = 1 := by kernel_rfl
set_option maxRecDepth 100000 in
theorem short_lit {H : Type} {s : ByteArray} (hw : ∀ m ∈ (DataW.lit (.string s.data.toList) : DataW H).weights Try.prog 9, m ≤ reachBytes) : s.size ≤ 281474976710656 := short_string (hw _ (by simp [DataW.weights]))
set_option maxRecDepth 100000 in
theorem names_in {H : Type} {enc : TypeId × Value → H} {W : World} {base fuel : Nat} {v : Value} {x : DataW H × List MemPlace} (h : DataW.trod enc Try.prog W base (fun _ => true) true fuel 30 [v] = some x) (hw : ∀ n ∈ x.1.weights Try.prog 30, n ≤ reachBytes) :
    ∃ l : List ByteArray, RowT 1 StrC W.heap.size W v l ∧ NsOk l := by
  have : Inhabited ByteArray := ⟨⟨#[]⟩⟩
  obtain ⟨l, h1, h2, _⟩ := row_in 1 (by decide) StrC (fun s => s.size ≤ 281474976710656) Try.underlying30 cells_str h hw (fun n cs y hy hwy hl => by
    obtain ⟨s, rfl, hys, _⟩ := DataW.trod_string Try.underlying9 hy
    rw [hys] at hwy
    exact ⟨s, rfl, short_lit hwy⟩)
  exact ⟨l, h1, h2⟩
set_option maxRecDepth 100000 in
theorem attrs_in {H : Type} {enc : TypeId × Value → H} {W : World} {base fuel : Nat} {v : Value} {x : DataW H × List MemPlace} (h : DataW.trod enc Try.prog W base (fun _ => true) true fuel 58 [v] = some x) (hw : ∀ n ∈ x.1.weights Try.prog 58, n ≤ reachBytes) :
    ∃ l : List At, RowT 3 AtC W.heap.size W v l ∧ ∀ a ∈ l, a.name.size ≤ 281474976710656 ∧ a.text.size ≤ 281474976710656 ∧ (Lit.int .i64 a.op).wf = true := by
  have : Inhabited At := ⟨⟨⟨#[]⟩, 0, ⟨#[]⟩⟩⟩
  obtain ⟨l, h1, h2, _⟩ := row_in 3 (by decide) AtC (fun a : At => a.name.size ≤ 281474976710656 ∧ a.text.size ≤ 281474976710656 ∧ (Lit.int .i64 a.op).wf = true) Try.underlying58 cells_attr h hw (fun n cs y hy hwy hl => by
    obtain ⟨xs, n', _, rfl, _, hxl, hf⟩ := DataW.trod_struct Try.underlying86 hy
    match cs, hl with
    | [c0, c1, c2], _ =>
      match xs, hxl with
      | [y0, y1, y2], _ =>
        have f0 := hf 0 _ rfl
        have f1 := hf 1 _ rfl
        have f2 := hf 2 _ rfl
        simp only [List.getElem?_cons_zero, List.getElem?_cons_succ] at f0 f1 f2
        obtain ⟨k0, g0, e0, _⟩ := DataW.trod_string Try.underlying9 f0
        obtain ⟨k1, g1, e1, w1⟩ := DataW.trod_int Try.underlying3 f1
        obtain ⟨k2, g2, e2, _⟩ := DataW.trod_string Try.underlying9 f2
        cases g0
        cases g1
        cases g2
        simp only [DataW.weights, Try.underlying86] at hwy
        refine ⟨⟨k0, k1, k2⟩, rfl, short_lit (H := H) (fun m hm => hwy m (DataW.weights_mem_each (j := 0) rfl rfl m ?_)), short_lit (H := H) (fun m hm => hwy m (DataW.weights_mem_each (j := 2) rfl rfl m ?_)), w1⟩
        · rw [e0]; exact hm
        · rw [e2]; exact hm)
  exact ⟨l, h1, h2⟩
/-- A compound's names are in reach. -/
def CpOk (c : Cp) : Prop := c.tag.size ≤ 281474976710656 ∧ NsOk c.ids ∧ NsOk c.classes ∧ ∀ a ∈ c.attrs, a.name.size ≤ 281474976710656 ∧ a.text.size ≤ 281474976710656 ∧ (Lit.int .i64 a.op).wf = true
def SlOk (s : Sel) : Prop := ∀ p ∈ s, CpOk p.2
def SelsIn (d : Nat) : Prop := ∀ {H : Type} {enc : TypeId × Value → H} {W : World} {base fuel : Nat} {v : Value} {x : DataW H × List MemPlace}, DataW.trod enc Try.prog W base (fun _ => true) true fuel 23 [v] = some x → (∀ n ∈ x.1.weights Try.prog 23, n ≤ reachBytes) →
    ∃ l : List Sel, SelsR d W.heap.size W v l ∧ ∀ s ∈ l, SlOk s
set_option maxRecDepth 100000 in
theorem comp_in (d : Nat) (HS : SelsIn d) {H : Type} {enc : TypeId × Value → H} {W : World} {base n : Nat} {cs : List Value} {y : DataW H × List MemPlace} (hy : DataW.trod enc Try.prog W base (fun _ => true) true n 61 cs = some y) (hwy : ∀ m ∈ y.1.weights Try.prog 61, m ≤ reachBytes) :
    ∃ c : Cp, CpC (SelsR d W.heap.size W) W.heap.size W cs c ∧ CpOk c := by
  have : Inhabited Ps := ⟨.mk 0 0 0 []⟩
  obtain ⟨xs, n', _, rfl, hl, hxl, hf⟩ := DataW.trod_struct Try.underlying61 hy
  rw [cells_comp] at hl
  match cs, hl with
  | [c0, c1, c2, c3, c4], _ =>
    match xs, hxl with
    | [y0, y1, y2, y3, y4], _ =>
      have f0 := hf 0 _ rfl
      have f1 := hf 1 _ rfl
      have f2 := hf 2 _ rfl
      have f3 := hf 3 _ rfl
      have f4 := hf 4 _ rfl
      simp only [List.getElem?_cons_zero, List.getElem?_cons_succ] at f0 f1 f2 f3 f4
      obtain ⟨k0, g0, e0, _⟩ := DataW.trod_string Try.underlying9 f0
      simp only [DataW.weights, Try.underlying61] at hwy
      have f1' : DataW.trod enc Try.prog W base (fun _ => true) true n' 30 [c1] = some y1 := f1
      have f2' : DataW.trod enc Try.prog W base (fun _ => true) true n' 30 [c2] = some y2 := f2
      have f3' : DataW.trod enc Try.prog W base (fun _ => true) true n' 58 [c3] = some y3 := f3
      have f4' : DataW.trod enc Try.prog W base (fun _ => true) true n' 59 [c4] = some y4 := f4
      obtain ⟨l1, a1, b1⟩ := names_in f1' (fun m hm => hwy m (DataW.weights_mem_each (j := 1) rfl rfl m hm))
      obtain ⟨l2, a2, b2⟩ := names_in f2' (fun m hm => hwy m (DataW.weights_mem_each (j := 2) rfl rfl m hm))
      obtain ⟨l3, a3, b3⟩ := attrs_in f3' (fun m hm => hwy m (DataW.weights_mem_each (j := 3) rfl rfl m hm))
      obtain ⟨l4, a4, _, _⟩ := row_in 4 (by decide) (PsC (SelsR d W.heap.size W)) (fun _ => True) Try.underlying59 cells_ps f4' (fun m hm => hwy m (DataW.weights_mem_each (j := 4) rfl rfl m hm)) (fun n cs y hy hwy hl => by
        obtain ⟨xs, n', _, rfl, _, hxl, hf⟩ := DataW.trod_struct Try.underlying80 hy
        match cs, hl with
        | [p0, p1, p2, p3], _ =>
          match xs, hxl with
          | [z0, z1, z2, z3], _ =>
            have f0 := hf 0 _ rfl
            have f1 := hf 1 _ rfl
            have f2 := hf 2 _ rfl
            have f3 := hf 3 _ rfl
            simp only [List.getElem?_cons_zero, List.getElem?_cons_succ] at f0 f1 f2 f3
            obtain ⟨k0, g0, _, _⟩ := DataW.trod_int Try.underlying3 f0
            obtain ⟨k1, g1, _, _⟩ := DataW.trod_int Try.underlying3 f1
            obtain ⟨k2, g2, _, _⟩ := DataW.trod_int Try.underlying3 f2
            have f3' : DataW.trod enc Try.prog W base (fun _ => true) true n' 23 [p3] = some z3 := f3
            simp only [DataW.weights, Try.underlying80] at hwy
            obtain ⟨ls, h1, _⟩ := HS f3' (fun m hm => hwy m (DataW.weights_mem_each (j := 3) rfl rfl m hm))
            cases g0
            cases g1
            cases g2
            exact ⟨.mk k0 k1 k2 ls, ⟨p3, rfl, h1⟩, trivial⟩)
      cases g0
      refine ⟨.mk k0 l1 l2 l3 l4, ⟨c1, c2, c3, c4, rfl, a1, a2, a3, a4⟩, short_lit (H := H) (fun m hm => hwy m (DataW.weights_mem_each (j := 0) rfl rfl m ?_)), b1, b2, b3⟩
      rw [e0]; exact hm
set_option maxRecDepth 100000 in
theorem sels_in (d : Nat) : SelsIn d := by
  induction d with
  | zero =>
    intro H enc W base fuel v x h hw
    rcases Deep.open_slice Try.underlying23 h with ⟨hcs, _⟩ | ⟨x, len, cap, m, n, D, Pl, hcs, _⟩
    · cases hcs
      exact ⟨[], ⟨rfl, _, _, _, rfl⟩, fun _ h => by cases h⟩
    · cases hcs
      exact ⟨[], ⟨rfl, _, _, _, rfl⟩, fun _ h => by cases h⟩
  | succ d ih =>
    intro H enc W base fuel v x h hw
    have : Inhabited Sel := ⟨[]⟩
    have : Inhabited Pt := ⟨(0, .mk ⟨#[]⟩ [] [] [] [])⟩
    obtain ⟨l, h1, h2, _⟩ := row_in 1 (by decide) (fun c s => ∃ x, c = [x] ∧ PtsR (SelsR d W.heap.size W) W.heap.size W x s) SlOk Try.underlying23 cells_sel h hw (fun n cs y hy hwy hl => by
      obtain ⟨xs, n', _, rfl, _, hxl, hf⟩ := DataW.trod_struct Try.underlying39 hy
      match cs, hl with
      | [c0], _ =>
        match xs, hxl with
        | [y0], _ =>
          have f0 := hf 0 _ rfl
          simp only [List.getElem?_cons_zero] at f0
          have f0' : DataW.trod enc Try.prog W base (fun _ => true) true n' 37 [c0] = some y0 := f0
          simp only [DataW.weights, Try.underlying39] at hwy
          obtain ⟨ps, g1, g2, _⟩ := row_in 6 (by decide) (PtC (SelsR d W.heap.size W) W.heap.size W) (fun p : Pt => CpOk p.2) Try.underlying37 cells_part f0' (fun m hm => hwy m (DataW.weights_mem_each (j := 0) rfl rfl m hm)) (fun n cs y hy hwy hl => by
            obtain ⟨xs, n', _, rfl, _, hxl, hf⟩ := DataW.trod_struct Try.underlying63 hy
            match cs, hl with
            | [c0, c1, c2, c3, c4, c5], _ =>
              match xs, hxl with
              | [y0, y1], _ =>
                have f0 := hf 0 _ rfl
                have f1 := hf 1 _ rfl
                simp only [List.getElem?_cons_zero, List.getElem?_cons_succ] at f0 f1
                obtain ⟨k0, g0, _, _⟩ := DataW.trod_int Try.underlying3 f0
                have f1' : DataW.trod enc Try.prog W base (fun _ => true) true n' 61 [c1, c2, c3, c4, c5] = some y1 := f1
                simp only [DataW.weights, Try.underlying63] at hwy
                obtain ⟨c, h1, h2⟩ := comp_in d ih f1' (fun m hm => hwy m (DataW.weights_mem_each (j := 1) rfl rfl m hm))
                cases g0
                exact ⟨(k0, c), ⟨_, rfl, h1⟩, h2⟩)
          exact ⟨ps, ⟨c0, rfl, g1⟩, g2⟩)
    exact ⟨l, h1, h2⟩

/-- One selector as a value: its parts, ten lists deep. -/
def SelAt (s : Sel) (W : World) (v : Value) : Prop := ∃ x, v = .agg #[x] ∧ PartsR 10 W.heap.size W x s
set_option maxRecDepth 100000 in
theorem sel_in {H : Type} {enc : TypeId × Value → H} {W : World} {fuel : Nat} {cs : Array Value} {y : DataW H × List MemPlace}
    (hy : DataW.trod enc Try.prog W 0 (fun _ => true) true fuel 39 cs.toList = some y) (hw : ∀ n ∈ y.1.weights Try.prog 39, n ≤ reachBytes) :
    ∃ s : Sel, SelAt s W (.agg cs) ∧ SlOk s := by
  have : Inhabited Pt := ⟨(0, .mk ⟨#[]⟩ [] [] [] [])⟩
  obtain ⟨xs, n', _, rfl, hl, hxl, hf⟩ := DataW.trod_struct Try.underlying39 hy
  rw [cells_sel] at hl
  have hcs : ∃ c0, cs = #[c0] := by
    obtain ⟨l⟩ := cs
    match l, hl with
    | [c0], _ => exact ⟨_, rfl⟩
  obtain ⟨c0, rfl⟩ := hcs
  match xs, hxl with
  | [y0], _ =>
    have f0 := hf 0 _ rfl
    simp only [List.getElem?_cons_zero] at f0
    have f0' : DataW.trod enc Try.prog W 0 (fun _ => true) true n' 37 [c0] = some y0 := f0
    simp only [DataW.weights, Try.underlying39] at hw
    obtain ⟨ps, g1, g2, _⟩ := row_in 6 (by decide) (PtC (SelsR 10 W.heap.size W) W.heap.size W) (fun p : Pt => CpOk p.2) Try.underlying37 cells_part f0' (fun m hm => hw m (DataW.weights_mem_each (j := 0) rfl rfl m hm)) (fun n cs y hy hwy hl => by
      obtain ⟨xs, n', _, rfl, _, hxl, hf⟩ := DataW.trod_struct Try.underlying63 hy
      match cs, hl with
      | [c0, c1, c2, c3, c4, c5], _ =>
        match xs, hxl with
        | [y0, y1], _ =>
          have f0 := hf 0 _ rfl
          have f1 := hf 1 _ rfl
          simp only [List.getElem?_cons_zero, List.getElem?_cons_succ] at f0 f1
          obtain ⟨k0, g0, _, _⟩ := DataW.trod_int Try.underlying3 f0
          have f1' : DataW.trod enc Try.prog W 0 (fun _ => true) true n' 61 [c1, c2, c3, c4, c5] = some y1 := f1
          simp only [DataW.weights, Try.underlying63] at hwy
          obtain ⟨c, h1, h2⟩ := comp_in 10 (sels_in 10) f1' (fun m hm => hwy m (DataW.weights_mem_each (j := 1) rfl rfl m hm))
          cases g0
          exact ⟨(k0, c), ⟨_, rfl, h1⟩, h2⟩)
    exact ⟨ps, ⟨c0, rfl, g1⟩, g2⟩
set_option maxRecDepth 100000 in
theorem selAt_of_reads {H : Type} {enc : TypeId × Value → H} {W : World} {base : Nat} {v : Value} {d : DataW H} {p : List MemPlace}
    (h : DataW.Trod enc Try.prog W 0 (fun _ => true) true 39 v d p) (hv : Value.okWide Try.prog W .any base 39 v) (hw : ∀ n ∈ d.weights Try.prog 39, n ≤ reachBytes) :
    ∃ s : Sel, SelAt s W v ∧ SlOk s := by
  obtain ⟨cs, rfl, _⟩ := okWide_struct Try.underlying39 hv
  obtain ⟨fuel, hf⟩ := h
  exact sel_in (y := (d, p)) hf hw

end Go.Proofs.Ytcdimmabnklcnaa.Wg
namespace Go.Proofs.Ytcdimmabnklcnaa
open Go.Proofs.Ytcdimmabnklcnaa.Tre
open Go Go.RowKit Go.ChangeShapes Go.WideShapes Go.ChangeAt Sl Wg
theorem selsAt_of_reads {H : Type} {enc : TypeId × Value → H} {W : World} {a : Option Addr} {len cap : Nat} {d : DataW H} {p : List MemPlace}
    (h : DataW.Trod enc Try.prog W 0 (fun _ => true) true 23 (.slice a len cap) d p) (hw : ∀ n ∈ d.weights Try.prog 23, n ≤ reachBytes) :
    ∃ l : List Sel, SelsR 11 W.heap.size W (.slice a len cap) l ∧ ∀ s ∈ l, SlOk s := by
  obtain ⟨fuel, hf⟩ := h
  obtain ⟨l, h1, h2⟩ := sels_in 11 (x := (d, p)) hf hw
  exact ⟨l, h1, h2⟩
end Go.Proofs.Ytcdimmabnklcnaa
