/- A slice of bytes, or of integers, that came in as an argument: what the walk is told of it. -/
import Derived.Test.YtlgfmncflnipgaaDoorTkLaid
import Derived.Test.YtlgfmncflnipgaaDoorBsB
namespace Go.Proofs.YtlgfmncflnipgaaDoor
open Go Go.ChangeShapes Go.WideShapes Go.ChangeAt Go.RowKit

/-- What a slice of integers holds, in plain words. -/
theorem row_of_reads {H : Type} {enc : TypeId × Value → H} {W : World} {a : Option Addr} {len cap : Nat} {d : DataW H} {p : List MemPlace} {k : IntKind} {t e : TypeId}
    (ht : Tryd.prog.underlying t = some (.slice e)) (he : Tryd.prog.underlying e = some (.int k)) (hc : Tryd.prog.cellsOf e = 1)
    (h : DataW.Trod enc Tryd.prog W 0 (fun _ => true) true t (.slice a len cap) d p) :
    ∃ zs : List Int, zs.length = len ∧ (∀ z ∈ zs, (Lit.int k z).wf = true) ∧ ((len = 0 ∧ (a = none → cap = 0)) ∨ ∃ bk off, a = some ⟨bk, off, none⟩ ∧ len ≤ cap ∧ cap ≤ maxLen ∧ bk < W.heap.size ∧ ∀ j u, zs[j]? = some u → W.cell? ⟨bk, off + j, none⟩ = some (.int k u)) := by
  obtain ⟨fuel, hf⟩ := h
  rcases open_ints ht he hc hf with ⟨hcs, _⟩ | ⟨x, l, c, zs, hcs, _, hl, hm, hz, _, hcell, hwz⟩
  · simp [Value.cells] at hcs
    obtain ⟨rfl, rfl, rfl⟩ := hcs
    exact ⟨[], rfl, by simp, .inl ⟨rfl, fun _ => rfl⟩⟩
  · simp [Value.cells] at hcs
    obtain ⟨rfl, rfl, rfl⟩ := hcs
    have hzl : zs.length = cap := by simpa using hz
    refine ⟨zs.take len, by simp; omega, fun z hzm => hwz z (List.mem_of_mem_take hzm), ?_⟩
    by_cases h0 : len = 0
    · exact .inl ⟨h0, fun e => by cases e⟩
    · obtain ⟨b, off, spot⟩ := x
      have hc0 := hcell 0 (by omega)
      have hspot : spot = none := by simpa [Addr.add] using World.cell?_spot hc0
      subst hspot
      refine .inr ⟨b, off, rfl, hl, hm, World.block_lt_of_cell? W ⟨b, off, none⟩ (by simpa [Addr.add] using hc0), fun j u hj => ?_⟩
      have hjl : j < len := by
        have := (List.getElem?_eq_some_iff.1 hj).1
        simp at this
        omega
      rw [List.getElem?_take_of_lt hjl] at hj
      have := hcell j (by omega)
      rw [List.getD_eq_getElem?_getD, hj] at this
      rw [show (⟨b, off + j, none⟩ : Addr) = (⟨b, off, none⟩ : Addr).add j from by
        cases j with
        | zero => rfl
        | succ j => simp [Addr.add]]
      exact this

theorem bytesAt_of_reads {H : Type} {enc : TypeId × Value → H} {W : World} {a : Option Addr} {len cap : Nat} {d : DataW H} {p : List MemPlace}
    (h : DataW.Trod enc Tryd.prog W 0 (fun _ => true) true 22 (.slice a len cap) d p) : ∃ bs : List UInt8, BytesAt W.heap.size W (.slice a len cap) bs := by
  obtain ⟨zs, hzl, hw, ⟨h0, hn⟩ | ⟨bk, off, rfl, hl, hm, hb, hc⟩⟩ := row_of_reads Tryd.underlying22 Tryd.underlying5 (by kernel_rfl) h
  · subst h0
    refine ⟨[], .inl ⟨rfl, ?_⟩⟩
    cases a with
    | none => rw [hn rfl]; exact .inl rfl
    | some x => exact .inr ⟨x, cap, rfl⟩
  · subst hzl
    refine ⟨zs.map fun z => UInt8.ofNat z.toNat, .inr ⟨bk, off, cap, by simp, by simpa using hl, hm, hb, fun j u hj => ?_⟩⟩
    rw [List.getElem?_map] at hj
    obtain ⟨z, hz, rfl⟩ := Option.map_eq_some_iff.1 hj
    have hwz := hw z (List.mem_of_getElem? hz)
    simp [Lit.wf, IntKind.min, IntKind.max, IntKind.signed, IntKind.bits] at hwz
    rw [hc j z hz, UInt8.toNat_ofNat']
    congr 2
    omega

theorem intsAt_of_reads {H : Type} {enc : TypeId × Value → H} {W : World} {a : Option Addr} {len cap : Nat} {d : DataW H} {p : List MemPlace}
    (h : DataW.Trod enc Tryd.prog W 0 (fun _ => true) true 31 (.slice a len cap) d p) : ∃ l : List Int, IntsAt W.heap.size W (.slice a len cap) l := by
  obtain ⟨zs, hzl, hw, ⟨h0, hn⟩ | ⟨bk, off, rfl, hl, hm, hb, hc⟩⟩ := row_of_reads Tryd.underlying31 Tryd.underlying3 (by kernel_rfl) h
  · subst h0
    refine ⟨[], .inl ⟨rfl, ?_⟩⟩
    cases a with
    | none => rw [hn rfl]; exact .inl rfl
    | some x => exact .inr ⟨x, cap, rfl⟩
  · subst hzl
    exact ⟨zs, .inr ⟨bk, off, cap, rfl, hl, hm, hb, hc⟩⟩

end Go.Proofs.YtlgfmncflnipgaaDoor
