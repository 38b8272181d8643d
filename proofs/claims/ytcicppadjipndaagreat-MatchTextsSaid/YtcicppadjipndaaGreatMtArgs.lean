/- Selectors and compounds that came in as arguments: read once, whatever the depth; their numbers and lists in bounds; where Dear says no the reading is whole, as match's own texts want it. -/
import Derived.Test.YtcicppadjipndaaGreatWgG
import Derived.Test.YtcicppadjipndaaGreatMtGx
import Derived.JoinedCond
import Derived.Deep.CondSized
namespace Go.Proofs.YtcicppadjipndaaGreat.Wg
open Go.Proofs.YtcicppadjipndaaGreat.Tre
open Go Go.RowKit Go.ChangeShapes Go.WideShapes Go.ChangeAt Sl Go.Proofs.YtcicppadjipndaaGreat.Tre
/-! ### one value, one reading -/
/-! ### numbers and lists in bounds, at every depth -/
def wfI (x : Int) : Prop := (Lit.int .i64 x).wf = true
def WD : Nat → List Sel → Prop
  | 0, _ => True
  | d + 1, l => l.length ≤ 8796093022208 ∧ ∀ s ∈ l, ∀ p ∈ s, wfI p.1 ∧ CpOk p.2 ∧ ∀ q ∈ p.2.pss, (wfI q.kind ∧ wfI q.a ∧ wfI q.b) ∧ WD d q.list
def CW (d : Nat) (c : Cp) : Prop := CpOk c ∧ ∀ q ∈ c.pss, (wfI q.kind ∧ wfI q.a ∧ wfI q.b) ∧ WD d q.list
def SW (d : Nat) (s : Sel) : Prop := ∀ p ∈ s, wfI p.1 ∧ CW d p.2
/-! ### one selector, one compound -/
end Go.Proofs.YtcicppadjipndaaGreat.Wg
namespace Go.Proofs.YtcicppadjipndaaGreat.Mt
open Go.Proofs.YtcicppadjipndaaGreat.Tre
open Go Go.RowKit Dm Go.Proofs.YtcicppadjipndaaGreat.Wg
/-! ### where Dear says no the reading is whole -/
theorem i64_of {x : Int} (h : wfI x) : i64 x := by
  have hm : IntKind.i64.min = -9223372036854775808 := rfl
  unfold wfI at h
  simp [Lit.wf] at h
  unfold i64
  constructor <;> omega
theorem row_cv {α : Type} {sz : Nat} {T T' : List Value → α → Prop} {n : Nat} {W : World} {v : Value} {l : List α} (h : Wg.RowT sz T n W v l) (hT : ∀ c x, x ∈ l → T c x → T' c x) : RowT sz T' n W v l := by
  rcases h with h | ⟨b, off, cap, rfl, h1, h2, h3, h4⟩
  · exact .inl h
  · refine .inr ⟨b, off, cap, rfl, h1, h2, h3, fun j x hx => ?_⟩
    obtain ⟨c, hc, ht, hcell⟩ := h4 j x hx
    exact ⟨c, hc, hT _ _ (List.mem_of_getElem? hx) ht, hcell⟩
theorem slr_of {α : Type} {sz : Nat} {f : α → List Value} {T : List Value → α → Prop} {n : Nat} {W : World} {v : Value} {l : List α} (h : Wg.RowT sz T n W v l) (hT : ∀ c x, T c x → c = f x) : SlR sz f n W v l := by
  rcases h with h | ⟨b, off, cap, rfl, h1, h2, h3, h4⟩
  · exact .inl h
  · refine .inr ⟨b, off, cap, rfl, h1, h2, h3, fun j x hx i u hu => ?_⟩
    obtain ⟨c, hc, ht, hcell⟩ := h4 j x hx
    rw [← hT c x ht] at hu
    exact hcell i u hu
theorem cpt_of {d n : Nat} {W : World} (HS : ∀ v l, SelsR d n W v l → FewD d l → WD d l → SelsAt d n W v l) {cs : List Value} {c : Cp} (h : CpC (SelsR d n W) n W cs c) (hf : FewQ d c) (hw : CW d c) : CpT (SelsAt d n W) n W cs c := by
  obtain ⟨i, k, a, p, rfl, r1, r2, r3, r4⟩ := h
  refine ⟨i, k, a, p, rfl, slr_of r1 (fun _ _ h => h), slr_of r2 (fun _ _ h => h), slr_of r3 (fun _ _ h => h), row_cv r4 (fun cs q hq ⟨x, e, hx⟩ => ?_), by have := hf.1.2.2.2; omega, fun _ _ => trivial⟩
  obtain ⟨⟨w0, w1, w2⟩, w3⟩ := hw.2 q hq
  have hfd := hf.2 q hq
  refine ⟨x, e, HS _ _ hx hfd w3, i64_of w0, i64_of w1, i64_of w2, ?_⟩
  cases d with
  | zero => exact absurd hfd (by simp [FewD])
  | succ d => unfold WD at w3; exact w3.1
theorem pts_of {d n : Nat} {W : World} (HS : ∀ v l, SelsR d n W v l → FewD d l → WD d l → SelsAt d n W v l) {v : Value} {s : Sel} (h : PtsR (SelsR d n W) n W v s) (hf : FewT d s) (hw : SW d s) : PtsT (SelsAt d n W) n W v s :=
  row_cv h (fun _ p hp ⟨c', e, hc⟩ => ⟨c', e, cpt_of HS hc (hf.2 p hp) (hw p hp).2, i64_of (hw p hp).1⟩)
theorem sels_of : ∀ (d : Nat) {n : Nat} {W : World} (v : Value) (l : List Sel), SelsR d n W v l → FewD d l → WD d l → SelsAt d n W v l
  | 0, _, _, _, _, _, hf, _ => absurd hf (by simp [FewD])
  | d + 1, n, W, _, l, h, hf, hw => by
    unfold FewD at hf
    unfold WD at hw
    exact row_cv h (fun _ s hs ⟨x, e, hx⟩ => ⟨x, e, pts_of (sels_of d) hx ⟨(hf s hs).1, fun p hp => ⟨((hf s hs).2 p hp).1, ((hf s hs).2 p hp).2⟩⟩ (fun p hp => ⟨(hw.2 s hs p hp).1, (hw.2 s hs p hp).2.1, (hw.2 s hs p hp).2.2⟩)⟩)
theorem parts_of {d n : Nat} {W : World} {v : Value} {s : Sel} (h : PartsR d n W v s) (hf : FewT d s) (hw : SW d s) : PartsAt d n W v s := pts_of (sels_of d) h hf hw
theorem comp_of {d n : Nat} {W : World} {cs : List Value} {c : Cp} (h : CpC (SelsR d n W) n W cs c) (hf : FewQ d c) (hw : CW d c) : CpT (SelsAt d n W) n W cs c := cpt_of (sels_of d) h hf hw
end Go.Proofs.YtcicppadjipndaaGreat.Mt
