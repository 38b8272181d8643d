/- Slices of bytes and of tokens that came in as arguments of a law of chapter 8. -/
import Derived.Test.YtdplmbifhknafaaDoorSlLaid
import Derived.Test.YtdplmbifhknafaaDoorSlGa
import Derived.Test.YtdplmbifhknafaaDoorBsI
namespace Go.Proofs.YtdplmbifhknafaaDoor.Sl
open Go.Proofs.YtdplmbifhknafaaDoor.Tre
open Go Go.RowKit Go.Lib Go.ChangeShapes Go.WideShapes Go.ChangeAt

/-- What a slice of integers holds, in plain words. -/
theorem row_of_reads {H : Type} {enc : TypeId × Value → H} {W : World} {a : Option Addr} {len cap : Nat} {d : DataW H} {p : List MemPlace} {k : IntKind} {t e : TypeId}
    (ht : Tryd.prog.underlying t = some (.slice e)) (he : Tryd.prog.underlying e = some (.int k)) (hc : Tryd.prog.cellsOf e = 1)
    (h : DataW.Trod enc Tryd.prog W 0 (fun _ => true) true t (.slice a len cap) d p) :
    ∃ zs : List Int, zs.length = len ∧ (∀ z ∈ zs, (Lit.int k z).wf = true) ∧ ((len = 0 ∧ (a = none → cap = 0)) ∨ ∃ bk off, a = some ⟨bk, off, none⟩ ∧ len ≤ cap ∧ cap ≤ maxLen ∧ bk < W.heap.size ∧ ∀ j u, zs[j]? = some u → W.cell? ⟨bk, off + j, none⟩ = some (.int k u)) := by
  obtain ⟨fuel, hf⟩ := h
  rcases open_ints ht he hc hf with ⟨hcs, _⟩ | ⟨x, l, c, zs, hcs, _, hl, hm, hz, _, hcell, hwz⟩
  · simp [Value.cells] at hcs
    obtain ⟨rfl, rfl, rfl⟩ := hcs
    exact ⟨[], rfl, by simp, .inl ⟨rfl, fun _ => rfl⟩⟩
  · simp [Value.cells] at hcs
    obtain ⟨rfl, rfl, rfl⟩ := hcs
    have hzl : zs.length = cap := by simpa using hz
    refine ⟨zs.take len, by simp; omega, fun z hzm => hwz z (List.mem_of_mem_take hzm), ?_⟩
    by_cases h0 : len = 0
    · exact .inl ⟨h0, fun e => by cases e⟩
    · obtain ⟨b, off, spot⟩ := x
      have hc0 := hcell 0 (by omega)
      have hspot : spot = none := by simpa [Addr.add] using World.cell?_spot hc0
      subst hspot
      refine .inr ⟨b, off, rfl, hl, hm, World.block_lt_of_cell? W ⟨b, off, none⟩ (by simpa [Addr.add] using hc0), fun j u hj => ?_⟩
      have hjl : j < len := by
        have := (List.getElem?_eq_some_iff.1 hj).1
        simp at this
        omega
      rw [List.getElem?_take_of_lt hjl] at hj
      have := hcell j (by omega)
      rw [List.getD_eq_getElem?_getD, hj] at this
      rw [show (⟨b, off + j, none⟩ : Addr) = (⟨b, off, none⟩ : Addr).add j from by
        cases j with
        | zero => rfl
        | succ j => simp [Addr.add]]
      exact this

theorem bytesAt_of_reads {H : Type} {enc : TypeId × Value → H} {W : World} {a : Option Addr} {len cap : Nat} {d : DataW H} {p : List MemPlace}
    (h : DataW.Trod enc Tryd.prog W 0 (fun _ => true) true 32 (.slice a len cap) d p) : ∃ bs : List UInt8, BytesAt W.heap.size W (.slice a len cap) bs := by
  obtain ⟨zs, hzl, hw, ⟨h0, hn⟩ | ⟨bk, off, rfl, hl, hm, hb, hc⟩⟩ := row_of_reads Tryd.underlying32 Tryd.underlying5 (by kernel_rfl) h
  · subst h0
    refine ⟨[], .inl ⟨rfl, ?_⟩⟩
    cases a with
    | none => rw [hn rfl]; exact .inl rfl
    | some x => exact .inr ⟨x, cap, rfl⟩
  · subst hzl
    refine ⟨zs.map fun z => UInt8.ofNat z.toNat, .inr ⟨bk, off, cap, by simp, by simpa using hl, hm, hb, fun j u hj => ?_⟩⟩
    rw [List.getElem?_map] at hj
    obtain ⟨z, hz, rfl⟩ := Option.map_eq_some_iff.1 hj
    have hwz := hw z (List.mem_of_getElem? hz)
    simp [Lit.wf, IntKind.min, IntKind.max, IntKind.signed, IntKind.bits] at hwz
    rw [hc j z hz, UInt8.toNat_ofNat']
    congr 2
    omega


theorem cells_tk : Tryd.prog.cellsOf 25 = 5 := by kernel_rfl
set_option maxRecDepth 100000 in
theorem tokens_in {H : Type} {enc : TypeId × Value → H} {W : World} {base fuel : Nat} {v : Value} {x : DataW H × List MemPlace}
    (hf : DataW.trod enc Tryd.prog W base (fun _ => true) true fuel 22 [v] = some x) : ∃ ts : List Bt, BtsAt W.heap.size W v ts ∧ ∀ t ∈ ts, t.text.size ≤ maxLen ∧ -9223372036854775808 ≤ t.n ∧ t.n ≤ 9223372036854775807 := by
  rcases Deep.open_slice Tryd.underlying22 hf with ⟨hcs, _⟩ | ⟨x, len, cap, m, n, D, Pl, hcs, _, hl, hm, hmm, _, hel⟩
  · cases hcs
    exact ⟨[], .inl ⟨rfl, .inl rfl⟩, by simp⟩
  · cases hcs
    simp at hmm
    rw [hmm, cells_tk] at hel
    clear hmm
    have each : ∀ i, i < cap → ∃ t : Bt, (t.text.size ≤ maxLen ∧ -9223372036854775808 ≤ t.n ∧ t.n ≤ 9223372036854775807) ∧ ∀ j u, (btCells t)[j]? = some u → W.cell? ((x.add (i * 5)).add j) = some u := fun i hi => by
      obtain ⟨cs', hcs, htr⟩ := hel i hi
      obtain ⟨xs, n', _, _, hlen, hxl, hf⟩ := DataW.trod_struct Tryd.underlying25 htr
      rw [cells_tk] at hlen
      obtain ⟨_, hcl, hcc⟩ := World.cells?_some hcs
      match cs', hlen with
      | [c0, c1, c2, c3, c4], _ =>
        match xs, hxl with
        | [y0, y1, y2, y3, y4], _ =>
          have f0 := hf 0 _ rfl
          have f1 := hf 1 _ rfl
          have f2 := hf 2 _ rfl
          have f3 := hf 3 _ rfl
          have f4 := hf 4 _ rfl
          simp only [List.getElem?_cons_zero, List.getElem?_cons_succ] at f0 f1 f2 f3 f4
          obtain ⟨k0, g0, _⟩ := DataW.trod_int Tryd.underlying3 f0
          obtain ⟨k1, g1, _, hz⟩ := DataW.trod_string Tryd.underlying9 f1
          obtain ⟨k2, g2, _, hn⟩ := DataW.trod_int Tryd.underlying3 f2
          obtain ⟨k3, g3, _⟩ := DataW.trod_bool Tryd.underlying4 f3
          obtain ⟨k4, g4, _⟩ := DataW.trod_int Tryd.underlying3 f4
          cases g0
          cases g1
          cases g2
          cases g3
          cases g4
          simp [Lit.wf, IntKind.min, IntKind.max, IntKind.signed, IntKind.bits] at hn
          refine ⟨⟨k0, k1, k2, k3, k4⟩, ⟨hz, by omega⟩, fun j u hj => ?_⟩
          have hjl : j < 5 := (List.getElem?_eq_some_iff.1 hj).1
          rw [hcc j hjl, ← hj]
          rfl
    obtain ⟨F, hF⟩ : ∃ F : Nat → Bt, ∀ i, i < cap → ((F i).text.size ≤ maxLen ∧ -9223372036854775808 ≤ (F i).n ∧ (F i).n ≤ 9223372036854775807) ∧ ∀ j u, (btCells (F i))[j]? = some u → W.cell? ((x.add (i * 5)).add j) = some u := by
      have : Inhabited Bt := ⟨⟨0, ⟨#[]⟩, 0, false, 0⟩⟩
      exact Deep.choose_lt each
    refine ⟨(List.range len).map F, ?_, fun t ht => ?_⟩
    · by_cases h0 : len = 0
      · exact .inl ⟨by simp [h0], .inr ⟨_, _, by rw [h0], hm⟩⟩
      · obtain ⟨b, off, spot⟩ := x
        have hc0 := (hF 0 (by omega)).2 0 _ rfl
        have hspot : spot = none := by simpa [Addr.add] using World.cell?_spot hc0
        subst hspot
        have key : ∀ i j, (((⟨b, off, none⟩ : Addr).add (i * 5)).add j) = ⟨b, off + i * 5 + j, none⟩ := fun i j => by rw [addr_add, addr_add]
        refine .inr ⟨b, off, cap, by simp, by simpa using hl, hm, World.block_lt_of_cell? W ⟨b, off, none⟩ (by rw [key] at hc0; simpa using hc0), fun j t hj => ?_⟩
        rw [List.getElem?_map] at hj
        obtain ⟨i, hi, rfl⟩ := Option.map_eq_some_iff.1 hj
        obtain ⟨h1, h2⟩ := List.getElem?_eq_some_iff.1 hi
        simp at h1 h2
        subst h2
        have hh := fun q u hq => (key j q ▸ (hF j (by omega)).2 q u hq : W.cell? ⟨b, off + j * 5 + q, none⟩ = some u)
        exact ⟨hh 0 _ rfl, hh 1 _ rfl, hh 2 _ rfl, hh 3 _ rfl, hh 4 _ rfl⟩
    · obtain ⟨i, hi, rfl⟩ := List.mem_map.1 ht
      have := List.mem_range.1 hi
      exact (hF i (by omega)).1
theorem tokensAt_of_reads {H : Type} {enc : TypeId × Value → H} {W : World} {a : Option Addr} {len cap : Nat} {d : DataW H} {p : List MemPlace}
    (h : DataW.Trod enc Tryd.prog W 0 (fun _ => true) true 22 (.slice a len cap) d p) : ∃ ts : List Bt, BtsAt W.heap.size W (.slice a len cap) ts ∧ ∀ t ∈ ts, t.text.size ≤ maxLen ∧ -9223372036854775808 ≤ t.n ∧ t.n ≤ 9223372036854775807 := by
  obtain ⟨fuel, hf⟩ := h
  exact tokens_in hf

end Go.Proofs.YtdplmbifhknafaaDoor.Sl
