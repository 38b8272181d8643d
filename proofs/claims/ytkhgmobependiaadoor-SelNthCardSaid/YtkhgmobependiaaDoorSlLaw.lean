/- A law of the walk: a range over a function whose iterator, between two rounds, changes what the rounds read; a round may return early, and its assignment may lay blocks. -/
import Derived.Test.YtkhgmobependiaaDoorSlGa
import Derived.Test.YtkhgmobependiaaDoorBsB
import Derived.RangeFuncBox
namespace Go.Proofs.YtkhgmobependiaaDoor.Sl
open Go.Proofs.YtkhgmobependiaaDoor.Tre
open Go Go.RowKit

/-- How a round's body may be left: off its end, or by a return; the loop's own two blocks lie as they lay. -/
def postQ (lo : Nat) (A B : World → Prop) (W : World) : Exit → Act → World → Prop
  | .normal, _, W' => (W.heap.size ≤ W'.heap.size ∧ W'.heap[lo]? = W.heap[lo]? ∧ W'.heap[lo + 1]? = W.heap[lo + 1]?) ∧ A W'
  | .ret, _, W' => (W.heap.size ≤ W'.heap.size ∧ W'.heap[lo]? = W.heap[lo]? ∧ W'.heap[lo + 1]? = W.heap[lo + 1]?) ∧ B W'
  | _, _, _ => False
/-- It doesn't mind a turn of the loop's own block. -/
def AbidesL (l : Nat) (A : World → Prop) : Prop := ∀ X r, A X → l < X.heap.size → A (X.putObj l (.loop r))
/-- It hangs on two blocks alone. -/
def OnTwo (lo : Nat) (A : World → Prop) : Prop := ∀ X Y, A X → Y.heap[lo]? = X.heap[lo]? → Y.heap[lo + 1]? = X.heap[lo + 1]? → A Y
theorem kept_putObj (X : World) (l : Nat) (o : Obj) : Kept (fun b => b ≠ l) X (X.putObj l o) := Kept.of_grown (grownBy_putObj' X l o) (fun k e h => by cases e; exact h rfl)

variable {F : Fence} {n : Nat} {P : Program}

/-- THE LAW FOR THE CALLER. -/
theorem wpIn_rangeFunc_Q {α σ : Type} {g : Operand} {ps : Array Tmp} {assign body : Code} {Q : Exit → Act → World → Prop} {a : Act} {w : World}
    (hro : F.round = none) (h1 : 1 ≤ n) {gf : Nat} {lb : Array Value} (hg : a.eval g = .func (.func gf) #[] lb) (hFg : F.fn gf) (eg : ∀ args w, (callFunc gf args).run P w = .ok (.enter gf args) w)
    {encs : α → Array Value} (hps : ∀ x, (encs x).size = ps.size)
    (lay : α → World → World) (hlay : ∀ x W, Below W.heap.size W (lay x W)) (a₁ : α → World → Act)
    (Pre Post Stop : σ → α → World → Prop) (StopD Done : World → Prop)
    (hPost : ∀ s x, AbidesL (w.heap.size + 1) (Post s x)) (hStop : ∀ s x, AbidesL (w.heap.size + 1) (Stop s x)) (hStopD : AbidesL (w.heap.size + 1) StopD) (hDone : AbidesL (w.heap.size + 1) Done)
    (hassign : ∀ (l : Nat) (x : α) (W : World) (K : Act → World → Prop), K (a₁ x W) (lay x W) →
      assign.wpIn (F.inRound l) (n - 1 - 1) P (Exit.then K (fun _ _ _ => False)) { tmps := (ps.zip (encs x)).foldl (fun t (p, v) => t.setIfInBounds p v) a.tmps, defers := [] } W)
    (hbody : ∀ (l : Nat) (s : σ) (x : α) (W0 W : World), Pre s x W0 → w.heap.size + 2 ≤ W0.heap.size → (∃ r, W = (lay x W0).putObj (w.heap.size + 1) (.loop r)) → W.heap[w.heap.size]? = some (.deferred (some [])) → (∃ r, W.heap[w.heap.size + 1]? = some (.loop r)) →
      body.wpIn (F.inRound l) (n - 1 - 1) P (postQ w.heap.size (Post s x) (Stop s x) W) (a₁ x W0) W)
    (hcall : ∀ (Lp Lx : World → Prop) (W1 : World), OnTwo w.heap.size Lp → OnTwo w.heap.size Lx → Below w.heap.size w W1 → W1.heap.size = w.heap.size + 2 → (∃ r, W1.heap[w.heap.size + 1]? = some (.loop r)) → Lp W1 →
      (∀ s x W, Lp W → Pre s x W → w.heap.size + 2 ≤ W.heap.size → YieldAt F (n - 1 - 1) P (w.heap.size + 1) (encs x) W fun e W' => (e = .returned (.bool true) ∧ Lp W' ∧ Post s x W') ∨ (e = .returned (.bool false) ∧ Lx W' ∧ Stop s x W')) →
      CallsIn F (n - 1) P gf (#[.func (.yield (w.heap.size + 1)) #[] #[]] ++ lb) W1 fun e W' => (∃ v, e = .returned v) ∧ ((Lp W' ∧ Done W') ∨ (Lx W' ∧ StopD W')))
    (hdone : ∀ (W : World), Done W → W.heap[w.heap.size]? = some (.deferred (some [])) → Q .normal { a with defers := { target := .collected w.heap.size, args := #[] } :: a.defers } W)
    (hstop : ∀ (W : World), StopD W → W.heap[w.heap.size]? = some (.deferred (some [])) → Code.ret.wpIn F n P Q { a with defers := { target := .collected w.heap.size, args := #[] } :: a.defers } W) :
    (Code.rangeFunc g ps assign body).wpIn F n P Q a w := by
  refine wpIn_rangeFunc ?_
  intro fn hfn
  rw [hro]
  obtain ⟨rec, hrec⟩ : ∃ rec : LoopState → Option Code → Loop, rec = fun st pe => { state := st, pending := pe, fn, tmps := a.tmps, params := ps, assign, body, defers := w.heap.size } := ⟨_, rfl⟩
  obtain ⟨W1, hW1⟩ : ∃ W1, (w.alloc (.deferred (some []))).alloc (.loop (rec .ready none)) = W1 := ⟨_, rfl⟩
  have hL1 : W1.heap[w.heap.size + 1]? = some (.loop (rec .ready none)) := by
    rw [← hW1]; have := World.alloc_heap_new (w.alloc (.deferred (some []))) (.loop (rec .ready none)); rwa [World.size_alloc] at this
  have hK1 : W1.heap[w.heap.size]? = some (.deferred (some [])) := by
    rw [← hW1]; exact (Below.heap_alloc _ _ _ (by simp)).trans (World.alloc_heap_new w _)
  have hs1 : W1.heap.size = w.heap.size + 2 := by rw [← hW1]; simp
  have hb1 : Below w.heap.size w W1 := by
    rw [← hW1]; exact ((Below.refl _ w).alloc (Nat.le_refl _) _).alloc (by simp) _
  refine ⟨w.heap.size + 1, [{ target := .collected w.heap.size, args := #[] }], W1, { target := .fn (.func gf) lb, args := #[.func (.yield (w.heap.size + 1)) #[] #[]] }, W1, gf,
    #[.func (.yield (w.heap.size + 1)) #[] #[]] ++ lb, W1, ?_, ?_, ?_, ?_, fun _ => h1, ?_⟩
  · rw [← hW1, hrec]; exact run_enterLoop_outer _ _ _ _ _
  · simp only [resolve, hg]
    simp [go_sem]
  · intro f' hf'; simp [Target.leads] at hf'; subst hf'; exact hFg
  · simp [invoke, go_sem, eg]
  · refine (hcall (fun W => W.heap[w.heap.size + 1]? = some (.loop (rec .ready none)) ∧ W.heap[w.heap.size]? = some (.deferred (some [])))
      (fun W => W.heap[w.heap.size + 1]? = some (.loop (rec .done (some .ret))) ∧ W.heap[w.heap.size]? = some (.deferred (some [])))
      W1 (fun X Y h e1 e2 => ⟨e2.trans h.1, e1.trans h.2⟩) (fun X Y h e1 e2 => ⟨e2.trans h.1, e1.trans h.2⟩) hb1 hs1 ⟨_, hL1⟩ ⟨hL1, hK1⟩ ?_).mono ?_
    · rintro s x W0 ⟨hl0, hk0⟩ hpre hsz
      have hy := run_yield (P := P) (args := encs x) hl0 (by rw [hrec]; exact hps x)
      rw [hrec] at hy
      have hla := hlay x W0
      have hlt0 : w.heap.size + 1 < W0.heap.size := (Array.getElem?_eq_some_iff.1 hl0).1
      have hl : (lay x W0).heap[w.heap.size + 1]? = some (.loop (rec .ready none)) := (hla.block _ hlt0).trans hl0
      have hk : (lay x W0).heap[w.heap.size]? = some (.deferred (some [])) := (hla.block _ (by omega)).trans hk0
      refine ⟨fn, _, assign, body, hy, roundIn_of_wpIn hfn (hassign _ x W0 _ ⟨_, run_beginRound hl (by rw [hrec]), ?_⟩)⟩
      have hlt : w.heap.size + 1 < (lay x W0).heap.size := (Array.getElem?_eq_some_iff.1 hl).1
      have hl2 : ((lay x W0).putObj (w.heap.size + 1) (.loop { rec .ready none with state := .busy })).heap[w.heap.size + 1]? = some (.loop { rec .ready none with state := .busy }) := World.putObj_heap_same hlt
      have hk2 : ((lay x W0).putObj (w.heap.size + 1) (.loop { rec .ready none with state := .busy })).heap[w.heap.size]? = some (.deferred (some [])) := (World.putObj_heap_other (by omega)).trans hk
      refine wpIn_mono (hbody _ s x W0 _ hpre hsz ⟨_, rfl⟩ hk2 ⟨_, hl2⟩) ?_
      rintro e a3 W3 hp
      cases e with
      | normal =>
        obtain ⟨⟨hs3, e0, e1⟩, hi3⟩ := hp
        have hl3 := e1.trans hl2
        have hd3 := e0.trans hk2
        have hr := run_endRound (P := P) none hl3
        rw [hrec] at hr
        refine ⟨_, _, hr, .inl ⟨rfl, ⟨?_, (World.putObj_heap_other (by omega)).trans hd3⟩, hPost s x _ _ hi3 (Array.getElem?_eq_some_iff.1 hl3).1⟩⟩
        rw [hrec]; exact World.putObj_heap_same (Array.getElem?_eq_some_iff.1 hl3).1
      | ret =>
        obtain ⟨⟨hs3, e0, e1⟩, hi3⟩ := hp
        have hl3 := e1.trans hl2
        have hd3 := e0.trans hk2
        have hr := run_endRound (P := P) (some .ret) hl3
        rw [hrec] at hr
        refine ⟨_, _, hr, .inr ⟨rfl, ⟨?_, (World.putObj_heap_other (by omega)).trans hd3⟩, hStop s x _ _ hi3 (Array.getElem?_eq_some_iff.1 hl3).1⟩⟩
        rw [hrec]; exact World.putObj_heap_same (Array.getElem?_eq_some_iff.1 hl3).1
      | exit id => exact hp.elim
      | goto t => exact hp.elim
      | panic ch => exact hp.elim
      | outgrown => exact hp.elim
    · rintro e W2 ⟨⟨v, rfl⟩, ⟨⟨hl, hk⟩, hi⟩ | ⟨⟨hl, hk⟩, hi⟩⟩
      · exact ⟨none, _, by have := run_endLoop (P := P) hl (by rw [hrec]; simp); rw [hrec] at this; exact this, hdone _ (hDone _ _ hi (Array.getElem?_eq_some_iff.1 hl).1) ((World.putObj_heap_other (by omega)).trans hk)⟩
      · exact ⟨some .ret, _, by have := run_endLoop (P := P) hl (by rw [hrec]; simp); rw [hrec] at this; exact this, hstop _ (hStopD _ _ hi (Array.getElem?_eq_some_iff.1 hl).1) ((World.putObj_heap_other (by omega)).trans hk)⟩

end Go.Proofs.YtkhgmobependiaaDoor.Sl
