/- Slices of strings and of bools that came in as arguments: what the walk is told of them. -/
import Derived.Test.YtbgcnmebmbjdjaaAtAsk
import Derived.Test.YtbgcnmebmbjdjaaRows
import Derived.Deep.Strs
import Derived.Deep.Grids
import Derived.ProofKit
import Derived.OpenShut
import Derived.ShutString
import Derived.ChangeOld
import Derived.SizedLaws
namespace Go.Proofs.Ytbgcnmebmbjdjaa
open Go Go.ChangeShapes Go.WideShapes Go.ChangeAt Go.RowKit

theorem ownNone : ownKnob Try.prog.godebug = none := by kernel_rfl
theorem laidOut : laidOutB Try.prog = true := by kernel_rfl

/-- THE SLICE VALUE v HOLDS THE STRINGS l, in a block below n₀. -/
def StrsAt (n₀ : Nat) (W : World) (v : Value) (l : List ByteArray) : Prop :=
  (l = [] ∧ ∃ p cap, v = .slice p 0 cap) ∨ ∃ bk off cap, v = .slice (some ⟨bk, off, none⟩) l.length cap ∧ l.length ≤ cap ∧ cap ≤ maxLen ∧ bk < n₀ ∧ ∀ j u, l[j]? = some u → W.cell? ⟨bk, off + j, none⟩ = some (.string u)
/-- .. the bools l. -/
def BoolsAt (n₀ : Nat) (W : World) (v : Value) (l : List Bool) : Prop :=
  (l = [] ∧ ∃ p cap, v = .slice p 0 cap) ∨ ∃ bk off cap, v = .slice (some ⟨bk, off, none⟩) l.length cap ∧ l.length ≤ cap ∧ cap ≤ maxLen ∧ bk < n₀ ∧ ∀ j u, l[j]? = some u → W.cell? ⟨bk, off + j, none⟩ = some (.bool u)

theorem StrsAt.below {n₀ : Nat} {X Y : World} {v : Value} {l : List ByteArray} (h : StrsAt n₀ X v l) (hb : Below n₀ X Y) : StrsAt n₀ Y v l := by
  rcases h with h | ⟨bk, off, cap, rfl, hc, hm, hbk, h⟩
  · exact .inl h
  · exact .inr ⟨bk, off, cap, rfl, hc, hm, hbk, fun j u hj => (hb.cell (p := ⟨bk, off + j, none⟩) hbk).trans (h j u hj)⟩
theorem BoolsAt.below {n₀ : Nat} {X Y : World} {v : Value} {l : List Bool} (h : BoolsAt n₀ X v l) (hb : Below n₀ X Y) : BoolsAt n₀ Y v l := by
  rcases h with h | ⟨bk, off, cap, rfl, hc, hm, hbk, h⟩
  · exact .inl h
  · exact .inr ⟨bk, off, cap, rfl, hc, hm, hbk, fun j u hj => (hb.cell (p := ⟨bk, off + j, none⟩) hbk).trans (h j u hj)⟩
theorem StrsAt.len {n₀ : Nat} {X : World} {v : Value} {l : List ByteArray} (h : StrsAt n₀ X v l) : ∃ p cap, v = .slice p l.length cap := by
  rcases h with ⟨rfl, p, cap, rfl⟩ | ⟨bk, off, cap, rfl, _⟩
  · exact ⟨_, _, rfl⟩
  · exact ⟨_, _, rfl⟩
theorem BoolsAt.len {n₀ : Nat} {X : World} {v : Value} {l : List Bool} (h : BoolsAt n₀ X v l) : ∃ p cap, v = .slice p l.length cap := by
  rcases h with ⟨rfl, p, cap, rfl⟩ | ⟨bk, off, cap, rfl, _⟩
  · exact ⟨_, _, rfl⟩
  · exact ⟨_, _, rfl⟩
/-- An element, where there is one. -/
theorem StrsAt.get {n₀ : Nat} {X : World} {p : Option Addr} {n cap : Nat} {l : List ByteArray} (h : StrsAt n₀ X (.slice p n cap) l) {k : Nat} (hk : k < l.length) : ∃ bk off u, p = some ⟨bk, off, none⟩ ∧ l[k]? = some u ∧ u ∈ l ∧ X.cell? ⟨bk, off + k, none⟩ = some (.string u) ∧ bk < n₀ := by
  rcases h with ⟨rfl, _⟩ | ⟨bk, off, cap, e, _, _, hb, h⟩
  · simp at hk
  · cases e
    exact ⟨bk, off, l[k], rfl, List.getElem?_eq_getElem hk, List.getElem_mem hk, h k _ (List.getElem?_eq_getElem hk), hb⟩
theorem BoolsAt.get {n₀ : Nat} {X : World} {p : Option Addr} {n cap : Nat} {l : List Bool} (h : BoolsAt n₀ X (.slice p n cap) l) {k : Nat} (hk : k < l.length) : ∃ bk off u, p = some ⟨bk, off, none⟩ ∧ l[k]? = some u ∧ X.cell? ⟨bk, off + k, none⟩ = some (.bool u) ∧ bk < n₀ := by
  rcases h with ⟨rfl, _⟩ | ⟨bk, off, cap, e, _, _, hb, h⟩
  · simp at hk
  · cases e
    exact ⟨bk, off, l[k], rfl, List.getElem?_eq_getElem hk, h k _ (List.getElem?_eq_getElem hk), hb⟩

theorem short_string {s : ByteArray} (h : s.data.toList.length ≤ reachBytes) : s.size ≤ 281474976710656 := by
  have h2 : s.size = s.data.toList.length := Array.length_toList.symm
  unfold reachBytes at h
  omega
theorem short_of {H : Type} {P : Program} {e : TypeId} : ∀ {ds : List (DataW H)} {s : List UInt8}, .lit (.string s) ∈ ds → s.length ∈ DataW.weightsAll P e ds
  | _ :: _, _, h => by
    rw [DataW.weightsAll, List.mem_append]
    rcases List.mem_cons.1 h with rfl | h
    · exact .inl (by simp [DataW.weights])
    · exact .inr (short_of h)

theorem strsAt_of_reads {H : Type} {enc : TypeId × Value → H} {W : World} {a : Option Addr} {len cap : Nat} {d : DataW H} {p : List MemPlace}
    (h : DataW.Trod enc Try.prog W 0 (fun _ => true) true 22 (.slice a len cap) d p) (hw : ∀ n ∈ d.weights Try.prog 22, n ≤ reachBytes) :
    ∃ l : List ByteArray, StrsAt W.heap.size W (.slice a len cap) l ∧ ∀ s ∈ l, s.size ≤ 281474976710656 := by
  obtain ⟨fuel, hf⟩ := h
  rcases Deep.open_strs Try.underlying22 Try.underlying9 (by kernel_rfl) hf with ⟨hcs, _⟩ | ⟨x, l, c, m, Sx, hcs, _, hl, hm, hmm, hx, hcell⟩
  · simp [Value.cells] at hcs
    obtain ⟨rfl, rfl, rfl⟩ := hcs
    exact ⟨[], .inl ⟨rfl, _, _, rfl⟩, by simp⟩
  · simp [Value.cells] at hcs
    obtain ⟨rfl, rfl, rfl⟩ := hcs
    simp at hmm
    subst hmm
    cases hx
    have hs : ∀ i, i < len → (Sx i).size ≤ 281474976710656 := fun i hi => by
      have h1 := hw (Sx i).data.toList.length (by
        simp only [DataW.weights, Try.underlying22]
        exact List.mem_cons_of_mem _ (List.mem_append_left _ (short_of (List.mem_map.2 ⟨i, List.mem_range.2 hi, rfl⟩))))
      have h2 : (Sx i).size = (Sx i).data.toList.length := Array.length_toList.symm
      unfold reachBytes at h1
      omega
    refine ⟨(List.range len).map Sx, ?_, fun s hs' => ?_⟩
    · by_cases h0 : len = 0
      · exact .inl ⟨by simp [h0], _, _, by rw [h0]⟩
      · obtain ⟨b, off, spot⟩ := x
        have hc0 := (hcell 0 (by omega)).1
        have hspot : spot = none := by simpa [Addr.add] using World.cell?_spot hc0
        subst hspot
        refine .inr ⟨b, off, m, by simp, by simpa using hl, hm, World.block_lt_of_cell? W ⟨b, off, none⟩ (by simpa [Addr.add] using hc0), fun j u hj => ?_⟩
        rw [List.getElem?_map] at hj
        obtain ⟨i, hi, rfl⟩ := Option.map_eq_some_iff.1 hj
        obtain ⟨h1, h2⟩ := List.getElem?_eq_some_iff.1 hi
        simp at h1 h2
        subst h2
        have := (hcell j (by omega)).1
        rw [show (⟨b, off + j, none⟩ : Addr) = (⟨b, off, none⟩ : Addr).add j from by
          cases j with
          | zero => rfl
          | succ j => simp [Addr.add]]
        exact this
    · obtain ⟨i, hi, rfl⟩ := List.mem_map.1 hs'
      exact hs i (List.mem_range.1 hi)

theorem boolsAt_of_reads {H : Type} {enc : TypeId × Value → H} {W : World} {a : Option Addr} {len cap : Nat} {d : DataW H} {p : List MemPlace}
    (h : DataW.Trod enc Try.prog W 0 (fun _ => true) true 23 (.slice a len cap) d p) : ∃ l : List Bool, BoolsAt W.heap.size W (.slice a len cap) l := by
  obtain ⟨fuel, hf⟩ := h
  rcases Deep.open_bools Try.underlying23 Try.underlying4 (by kernel_rfl) hf with ⟨hcs, _⟩ | ⟨x, l, c, Sx, hcs, _, hl, hm, _, hcell⟩
  · simp [Value.cells] at hcs
    obtain ⟨rfl, rfl, rfl⟩ := hcs
    exact ⟨[], .inl ⟨rfl, _, _, rfl⟩⟩
  · simp [Value.cells] at hcs
    obtain ⟨rfl, rfl, rfl⟩ := hcs
    refine ⟨(List.range len).map Sx, ?_⟩
    by_cases h0 : len = 0
    · exact .inl ⟨by simp [h0], _, _, by rw [h0]⟩
    · obtain ⟨b, off, spot⟩ := x
      have hc0 := hcell 0 (by omega)
      have hspot : spot = none := by simpa [Addr.add] using World.cell?_spot hc0
      subst hspot
      refine .inr ⟨b, off, cap, by simp, by simpa using hl, hm, World.block_lt_of_cell? W ⟨b, off, none⟩ (by simpa [Addr.add] using hc0), fun j u hj => ?_⟩
      rw [List.getElem?_map] at hj
      obtain ⟨i, hi, rfl⟩ := Option.map_eq_some_iff.1 hj
      obtain ⟨h1, h2⟩ := List.getElem?_eq_some_iff.1 hi
      simp at h1 h2
      subst h2
      have := hcell j (by omega)
      rw [show (⟨b, off + j, none⟩ : Addr) = (⟨b, off, none⟩ : Addr).add j from by
        cases j with
        | zero => rfl
        | succ j => simp [Addr.add]]
      exact this

end Go.Proofs.Ytbgcnmebmbjdjaa
