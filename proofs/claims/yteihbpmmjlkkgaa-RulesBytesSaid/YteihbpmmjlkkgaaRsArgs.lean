/- Slices of tokens, of bytes and of integers that came in as arguments: what the walk is told of them. -/
import Derived.Test.YteihbpmmjlkkgaaRsMem
import Derived.Test.YteihbpmmjlkkgaaEnc
import Derived.Test.YteihbpmmjlkkgaaRows
import Derived.Deep.Strs
import Derived.Deep.Slices
import Derived.ProofKit
import Derived.OpenShut
import Derived.ShutString
import Derived.ChangeOld
import Derived.SizedLaws
namespace Go.Proofs.Yteihbpmmjlkkgaa
open Go Go.ChangeShapes Go.WideShapes Go.ChangeAt Go.RowKit

theorem ownNone : ownKnob Try.prog.godebug = none := by kernel_rfl
theorem laidOut : laidOutB Try.prog = true := by kernel_rfl

theorem cells_tk : Try.prog.cellsOf 38 = 5 := by kernel_rfl

/-- What a slice of integers holds, in plain words. -/
theorem row_of_reads {H : Type} {enc : TypeId × Value → H} {W : World} {a : Option Addr} {len cap : Nat} {d : DataW H} {p : List MemPlace} {k : IntKind} {t e : TypeId}
    (ht : Try.prog.underlying t = some (.slice e)) (he : Try.prog.underlying e = some (.int k)) (hc : Try.prog.cellsOf e = 1)
    (h : DataW.Trod enc Try.prog W 0 (fun _ => true) true t (.slice a len cap) d p) :
    ∃ zs : List Int, zs.length = len ∧ (∀ z ∈ zs, (Lit.int k z).wf = true) ∧ ((len = 0 ∧ (a = none → cap = 0)) ∨ ∃ bk off, a = some ⟨bk, off, none⟩ ∧ len ≤ cap ∧ cap ≤ maxLen ∧ bk < W.heap.size ∧ ∀ j u, zs[j]? = some u → W.cell? ⟨bk, off + j, none⟩ = some (.int k u)) := by
  obtain ⟨fuel, hf⟩ := h
  rcases open_ints ht he hc hf with ⟨hcs, _⟩ | ⟨x, l, c, zs, hcs, _, hl, hm, hz, _, hcell, hwz⟩
  · simp [Value.cells] at hcs
    obtain ⟨rfl, rfl, rfl⟩ := hcs
    exact ⟨[], rfl, by simp, .inl ⟨rfl, fun _ => rfl⟩⟩
  · simp [Value.cells] at hcs
    obtain ⟨rfl, rfl, rfl⟩ := hcs
    have hzl : zs.length = cap := by simpa using hz
    refine ⟨zs.take len, by simp; omega, fun z hzm => hwz z (List.mem_of_mem_take hzm), ?_⟩
    by_cases h0 : len = 0
    · exact .inl ⟨h0, fun e => by cases e⟩
    · obtain ⟨b, off, spot⟩ := x
      have hc0 := hcell 0 (by omega)
      have hspot : spot = none := by simpa [Addr.add] using World.cell?_spot hc0
      subst hspot
      refine .inr ⟨b, off, rfl, hl, hm, World.block_lt_of_cell? W ⟨b, off, none⟩ (by simpa [Addr.add] using hc0), fun j u hj => ?_⟩
      have hjl : j < len := by
        have := (List.getElem?_eq_some_iff.1 hj).1
        simp at this
        omega
      rw [List.getElem?_take_of_lt hjl] at hj
      have := hcell j (by omega)
      rw [List.getD_eq_getElem?_getD, hj] at this
      rw [show (⟨b, off + j, none⟩ : Addr) = (⟨b, off, none⟩ : Addr).add j from by
        cases j with
        | zero => rfl
        | succ j => simp [Addr.add]]
      exact this

theorem bytesAt_of_reads {H : Type} {enc : TypeId × Value → H} {W : World} {a : Option Addr} {len cap : Nat} {d : DataW H} {p : List MemPlace}
    (h : DataW.Trod enc Try.prog W 0 (fun _ => true) true 29 (.slice a len cap) d p) : ∃ bs : List UInt8, BytesAt W.heap.size W (.slice a len cap) bs := by
  obtain ⟨zs, hzl, hw, ⟨h0, hn⟩ | ⟨bk, off, rfl, hl, hm, hb, hc⟩⟩ := row_of_reads Try.underlying29 Try.underlying5 (by kernel_rfl) h
  · subst h0
    refine ⟨[], .inl ⟨rfl, ?_⟩⟩
    cases a with
    | none => rw [hn rfl]; exact .inl rfl
    | some x => exact .inr ⟨x, cap, rfl⟩
  · subst hzl
    refine ⟨zs.map fun z => UInt8.ofNat z.toNat, .inr ⟨bk, off, cap, by simp, by simpa using hl, hm, hb, fun j u hj => ?_⟩⟩
    rw [List.getElem?_map] at hj
    obtain ⟨z, hz, rfl⟩ := Option.map_eq_some_iff.1 hj
    have hwz := hw z (List.mem_of_getElem? hz)
    simp [Lit.wf, IntKind.min, IntKind.max, IntKind.signed, IntKind.bits] at hwz
    rw [hc j z hz, UInt8.toNat_ofNat']
    congr 2
    omega

theorem intsAt_of_reads {H : Type} {enc : TypeId × Value → H} {W : World} {a : Option Addr} {len cap : Nat} {d : DataW H} {p : List MemPlace}
    (h : DataW.Trod enc Try.prog W 0 (fun _ => true) true 33 (.slice a len cap) d p) : ∃ l : List Int, IntsAt W.heap.size W (.slice a len cap) l := by
  obtain ⟨zs, hzl, hw, ⟨h0, hn⟩ | ⟨bk, off, rfl, hl, hm, hb, hc⟩⟩ := row_of_reads Try.underlying33 Try.underlying3 (by kernel_rfl) h
  · subst h0
    refine ⟨[], .inl ⟨rfl, ?_⟩⟩
    cases a with
    | none => rw [hn rfl]; exact .inl rfl
    | some x => exact .inr ⟨x, cap, rfl⟩
  · subst hzl
    exact ⟨zs, .inr ⟨bk, off, cap, rfl, hl, hm, hb, hc⟩⟩


theorem tokensAt_of_reads {H : Type} {enc : TypeId × Value → H} {W : World} {a : Option Addr} {len cap : Nat} {d : DataW H} {p : List MemPlace}
    (h : DataW.Trod enc Try.prog W 0 (fun _ => true) true 22 (.slice a len cap) d p) : ∃ ts : List Bt, BtsAt W.heap.size W (.slice a len cap) ts := by
  obtain ⟨fuel, hf⟩ := h
  rcases Deep.open_slice Try.underlying22 hf with ⟨hcs, _⟩ | ⟨x, l, c, m, n, D, Pl, hcs, _, hl, hm, hmm, _, hel⟩
  · simp [Value.cells] at hcs
    obtain ⟨rfl, rfl, rfl⟩ := hcs
    exact ⟨[], .inl ⟨rfl, .inl rfl⟩⟩
  · simp [Value.cells] at hcs
    obtain ⟨rfl, rfl, rfl⟩ := hcs
    simp at hmm
    rw [hmm, cells_tk] at hel
    clear hmm
    have each : ∀ i, i < cap → ∃ t : Bt, ∀ j u, (btCells t)[j]? = some u → W.cell? ((x.add (i * 5)).add j) = some u := fun i hi => by
      obtain ⟨cs', hcs, htr⟩ := hel i hi
      obtain ⟨xs, n', _, _, hlen, hxl, hf⟩ := DataW.trod_struct Try.underlying38 htr
      rw [cells_tk] at hlen
      obtain ⟨_, hcl, hcc⟩ := World.cells?_some hcs
      match cs', hlen with
      | [c0, c1, c2, c3, c4], _ =>
        match xs, hxl with
        | [y0, y1, y2, y3, y4], _ =>
          have f0 := hf 0 _ rfl
          have f1 := hf 1 _ rfl
          have f2 := hf 2 _ rfl
          have f3 := hf 3 _ rfl
          have f4 := hf 4 _ rfl
          simp only [List.getElem?_cons_zero, List.getElem?_cons_succ] at f0 f1 f2 f3 f4
          obtain ⟨k0, g0, _⟩ := DataW.trod_int Try.underlying3 f0
          obtain ⟨k1, g1, _⟩ := DataW.trod_string Try.underlying9 f1
          obtain ⟨k2, g2, _⟩ := DataW.trod_int Try.underlying3 f2
          obtain ⟨k3, g3, _⟩ := DataW.trod_bool Try.underlying4 f3
          obtain ⟨k4, g4, _⟩ := DataW.trod_int Try.underlying3 f4
          cases g0
          cases g1
          cases g2
          cases g3
          cases g4
          refine ⟨⟨k0, k1, k2, k3, k4⟩, fun j u hj => ?_⟩
          have hjl : j < 5 := (List.getElem?_eq_some_iff.1 hj).1
          rw [hcc j hjl, ← hj]
          rfl
    obtain ⟨F, hF⟩ : ∃ F : Nat → Bt, ∀ i, i < cap → ∀ j u, (btCells (F i))[j]? = some u → W.cell? ((x.add (i * 5)).add j) = some u := by
      have : Inhabited Bt := ⟨⟨0, ⟨#[]⟩, 0, false, 0⟩⟩
      exact Deep.choose_lt each
    refine ⟨(List.range len).map F, ?_⟩
    by_cases h0 : len = 0
    · exact .inl ⟨by simp [h0], .inr ⟨_, _, by rw [h0], hm⟩⟩
    · obtain ⟨b, off, spot⟩ := x
      have hc0 := hF 0 (by omega) 0 _ rfl
      have hspot : spot = none := by simpa [Addr.add] using World.cell?_spot hc0
      subst hspot
      have key : ∀ i j, (((⟨b, off, none⟩ : Addr).add (i * 5)).add j) = ⟨b, off + i * 5 + j, none⟩ := fun i j => by
        have e : ∀ o k, (⟨b, o, none⟩ : Addr).add k = ⟨b, o + k, none⟩ := fun o k => by
          cases k with
          | zero => rfl
          | succ k => simp [Addr.add]
        rw [e, e]
      refine .inr ⟨b, off, cap, by simp, by simpa using hl, hm, World.block_lt_of_cell? W ⟨b, off, none⟩ (by rw [key] at hc0; simpa using hc0), fun j t hj => ?_⟩
      rw [List.getElem?_map] at hj
      obtain ⟨i, hi, rfl⟩ := Option.map_eq_some_iff.1 hj
      obtain ⟨h1, h2⟩ := List.getElem?_eq_some_iff.1 hi
      simp at h1 h2
      subst h2
      have hh := fun q u hq => (key j q ▸ hF j (by omega) q u hq : W.cell? ⟨b, off + j * 5 + q, none⟩ = some u)
      exact ⟨hh 0 _ rfl, hh 1 _ rfl, hh 2 _ rfl, hh 3 _ rfl, hh 4 _ rfl⟩

end Go.Proofs.Yteihbpmmjlkkgaa
