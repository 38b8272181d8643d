/- The document's New, and what its tree is to matching. -/
import Derived.Test.YtchfnnoabejlpaaRfSel
import Derived.Test.YtchfnnoabejlpaaDmGc
import Derived.Test.YtchfnnoabejlpaaSelUp
namespace Go.Proofs.Ytchfnnoabejlpaa.Rf
open Go Go.RowKit Sl Wg Go.Proofs.Ytchfnnoabejlpaa.Tre
open Dm (El Nd Nv lowN SmallN newV newF addV growV zeroEl RTr Tells)

theorem grow_nds {es : List El} {p c : Nat} {q : El} (hq : es[p]? = some q) {x : El} (hx : x ∈ growV es p q c) : ∃ y ∈ es, x.nd = y.nd := by
  unfold growV at hx
  rcases List.mem_or_eq_of_mem_set hx with h | rfl
  · exact ⟨x, h, rfl⟩
  · exact ⟨q, List.mem_of_getElem? hq, rfl⟩
theorem add_nds {es es' : List El} {n : Nd} (h : addV es n = .ok es') {x : El} (hx : x ∈ es') : (∃ y ∈ es, x.nd = y.nd) ∨ x.nd = lowN n := by
  unfold addV at h
  split at h
  · split at h
    · cases h
      rw [List.mem_singleton] at hx
      subst hx
      exact .inr rfl
    · cases h
  · split at h
    · rename_i hp
      split at h
      · cases h
      · cases h
        rcases List.mem_append.1 hx with hx | hx
        · obtain ⟨q, hq⟩ : ∃ q, es[n.parent.toNat]? = some q := ⟨_, List.getElem?_eq_getElem (by omega)⟩
          have hg : es.getD n.parent.toNat zeroEl = q := by simp [List.getD, hq]
          rw [hg] at hx
          exact .inl (grow_nds hq hx)
        · rw [List.mem_singleton] at hx
          subst hx
          exact .inr rfl
    · cases h
theorem newF_nds : ∀ (l : List Nd) (es es' : List El), newF es l = .ok es' → ∀ x ∈ es', (∃ y ∈ es, x.nd = y.nd) ∨ ∃ n ∈ l, x.nd = lowN n
  | [], es, es', h, x, hx => by cases h; exact .inl ⟨x, hx, rfl⟩
  | n :: l, es, es', h, x, hx => by
    unfold newF at h
    cases ha : addV es n with
    | error e => rw [ha] at h; cases h
    | ok e2 =>
      rw [ha] at h
      rcases newF_nds l e2 es' h x hx with ⟨y, hy, e⟩ | ⟨m, hm, e⟩
      · rcases add_nds ha hy with ⟨z, hz, e'⟩ | e'
        · exact .inl ⟨z, hz, e.trans e'⟩
        · exact .inr ⟨n, List.mem_cons_self .., e.trans e'⟩
      · exact .inr ⟨m, List.mem_cons_of_mem _ hm, e⟩
theorem newV_nds {l : List Nd} {es : List El} (h : newV l = .ok es) : ∀ x ∈ es, ∃ n ∈ l, x.nd = lowN n := fun x hx => by
  unfold newV at h
  split at h
  · cases h
  · rcases newF_nds l [] es h x hx with ⟨y, hy, _⟩ | h
    · cases hy
    · exact h
theorem small_low {n : Nd} (h : SmallN n) : SmallN (lowN n) := by
  obtain ⟨h1, h2, h3, h4, h5, h6⟩ := h
  refine ⟨h1, by show (n.ats.map Dm.lowA).length ≤ 8; rw [List.length_map]; exact h2, by show (Dm.lowS n.tag).size ≤ 60; rw [Dm.lowS_size]; exact h3, h4, h5, fun a ha => ?_⟩
  obtain ⟨b, hb, rfl⟩ := List.mem_map.1 ha
  exact ⟨by show (Dm.lowS b.1).size ≤ 60; rw [Dm.lowS_size]; exact (h6 b hb).1, (h6 b hb).2⟩
/-- A tree that New has made of small nodes. -/
theorem TE.of_new {b tb : Nat} {nv dv : Value} {ns : List Nv} {ds : List Int} {es : List El} {w : World} {l : List Nv} (hR : RTr b w tb nv dv ns ds) (hE : Tells es ns ds) (hv : newV (l.map Nv.nd) = .ok es) (hs : ∀ n ∈ l, SmallN n.nd) :
    (TE.mk b tb nv dv ns ds es).At w ∧ (∀ q ∈ es, SmallN q.nd) ∧ es.length = l.length := by
  obtain ⟨h1, h2, h3⟩ := Dm.newV_ok hv
  rw [List.length_map] at h2 h3
  have hq : ∀ q ∈ es, SmallN q.nd := fun q hq => by
    obtain ⟨n, hn, e⟩ := newV_nds hv q hq
    obtain ⟨m, hm, rfl⟩ := List.mem_map.1 hn
    rw [e]
    exact small_low (hs m hm)
  refine ⟨⟨hR, hE, h1, by show es.length ≤ 4096; omega, fun n hn p hp => ?_⟩, hq, h2⟩
  have h4 : n.nd ∈ es.map El.nd := by rw [← hE.nds]; exact List.mem_map_of_mem hn
  obtain ⟨q, hqm, e⟩ := List.mem_map.1 h4
  have h5 := (hq q hqm).2.2.2.2.2 p (by rw [e]; exact hp)
  omega
/-- The bounds of the second form, as matching asks for them. -/
theorem okA_of {c : Cp} (h : CpR 1048576 c) : okA c := by
  obtain ⟨_, _, _, h4, h5⟩ := h
  refine ⟨fun a ha => by have := (h4 a ha).2.1; omega, fun q hq => ?_⟩
  obtain ⟨g1, g2⟩ := h5 q hq
  simp [Lit.wf] at g1 g2
  have hm : IntKind.i64.min = -9223372036854775808 := rfl
  unfold i64
  constructor <;> constructor <;> omega
theorem okS_of : ∀ (d : Nat) {s : Sel}, OkD 1048576 d s → okS d s
  | 0, _, h => fun p hp => okA_of (h p hp)
  | d + 1, _, h => fun p hp => ⟨okA_of (h p hp).1, fun q hq s' hs' => okS_of d ((h p hp).2 q hq s' hs')⟩
/-- A list of selectors, cut as deep as matching reads. -/
def cut9 (l : List Sel) : List Sel := (l.map (cutS 9)).map (cutS 8)
theorem cut9_len (l : List Sel) : (cut9 l).length = l.length := by unfold cut9; simp
theorem cut9_at {n : Nat} {W : World} {v : Value} {l : List Sel} (h : SelsR 11 n W v l) : SelsR 9 n W v (cut9 l) := sels_cut 9 v _ (sels_cut 10 v l h)
theorem cut9_ok {l : List Sel} (h : ∀ s ∈ l, OkD 1048576 10 s) : ∀ s ∈ cut9 l, OkD 1048576 8 s := fun s hs => by
  obtain ⟨s1, h1, rfl⟩ := List.mem_map.1 hs
  obtain ⟨s2, h2, rfl⟩ := List.mem_map.1 h1
  exact OkD_cut 8 (OkD_cut 9 (h s2 h2))

end Go.Proofs.Ytchfnnoabejlpaa.Rf
