/- package match: list at every spot. -/
import Derived.Test.YtgjfapdnobhkcabMtList
namespace Go.Proofs.Ytgjfapdnobhkcab.Mt
open Go Go.RowKit Dm

/-- Where the loop over a list's selectors stands. -/
structure Lst (E : Env) (A k j f' Bp Bs : Nat) (q : Ps) (pv fv lv : Value) (γ : Ghost) (W : World) (i : Nat) (bs : List Nat) (γi : Ghost) (X : World) : Prop where
  len : bs.length = i
  st : Step E γ W γi X
  row : Blk X Bp 96 (bs.map ptrV ++ reps (q.list.length - i) (.pointer .none))
  rowN : γi Bp = .none
  spN : γi Bs = .none
  sp : Blk X Bs 110 [.int .i64 k, .int .i64 j]
  ask : Blk X A 83 [ptrV E.tb, pv, fv, lv]
  each : ∀ (i' b : Nat) (x : Sel), bs[i']? = some b → q.list[i']? = some x → ∃ pv', γi b = some (.asked x pv' f')
  mp : ∀ M, lv = .map (some M) → X.heap[M]? = W.heap[M]?
theorem reps_succ {α : Type} (n : Nat) (z : α) : reps (n + 1) z = z :: reps n z := rfl
theorem reps_set {α : Type} (l : List α) (m : Nat) (z u : α) : (l ++ reps (m + 1) z).set l.length u = (l ++ [u]) ++ reps m z := by
  rw [reps_succ, List.set_append_right _ _ (Nat.le_refl _), Nat.sub_self, List.set_cons_zero]
  simp

/-- One more. -/
theorem Lst.push {E : Env} {A k j f' Bp Bs : Nat} {q : Ps} {pv fv lv : Value} {γ : Ghost} {W : World} {i : Nat} {bs : List Nat} {γi : Ghost} {X Y : World} (h : Lst E A k j f' Bp Bs q pv fv lv γ W i bs γi X) (hlt : i < q.list.length)
    (hb : Below X.heap.size X Y) {x : Sel} (hx : q.list[i]? = some x) {xv : Value} (hP : ∃ d, PartsAt d E.n₀ E.w₀ xv x) (hfit : fitsV f' x = true) (hBp : W.heap.size ≤ Bp) (hBs : Bs ≠ Bp) (hA : A ≠ Bp) (hM : ∀ M, lv = .map (some M) → M < W.heap.size) (hn : E.n₀ ≤ W.heap.size) :
    Lst E A k j f' Bp Bs q pv fv lv γ W (i + 1) (bs ++ [Y.heap.size]) (addG γi Y.heap.size (.asked x xv f')) ((Y.alloc (.cells #[ptrV E.tb, xv, .slice .none 0 0, .map .none] 83)).setCell ⟨Bp, i, .none⟩ (ptrV Y.heap.size)) := by
  have hY := h.st.inv.step hb
  have hN : γi Y.heap.size = .none := hY.inv.new (Nat.le_refl _)
  have mono := addG_mono hY.inv (Nat.le_refl Y.heap.size) (.asked x xv f')
  have h1 : Step E γi Y (addG γi Y.heap.size (.asked x xv f')) (Y.alloc (.cells #[ptrV E.tb, xv, .slice .none 0 0, .map .none] 83)) :=
    hY.inv.add (Nat.le_refl _) ((Below.refl _ Y).alloc (Nat.le_refl _) _) (heap_alloc_new Y _) ⟨hP, hfit, _, _, rfl, .inl rfl, .inl rfl⟩
  have hBpY : Bp < Y.heap.size := Nat.lt_of_lt_of_le h.row.lt hb.size
  have rN : addG γi Y.heap.size (.asked x xv f') Bp = .none := (addG_other _ (by omega)).trans h.rowN
  have g := grown_set (Y.alloc (.cells #[ptrV E.tb, xv, .slice .none 0 0, .map .none] 83)) Bp i (ptrV Y.heap.size)
  have up : ∀ {B : Nat} {t : TypeId} {cs : List Value}, Blk X B t cs → Blk (Y.alloc (.cells #[ptrV E.tb, xv, .slice .none 0 0, .map .none] 83)) B t cs := fun hk => blk_alloc (hk.next hb) _
  have rw1 := blk_put (up h.row) i (ptrV Y.heap.size)
  have e1 : (bs.map ptrV ++ reps (q.list.length - i) (Value.pointer .none)).set i (ptrV Y.heap.size) = (bs ++ [Y.heap.size]).map ptrV ++ reps (q.list.length - (i + 1)) (.pointer .none) := by
    have h2 : q.list.length - i = (q.list.length - (i + 1)) + 1 := by omega
    have h3 : (bs.map ptrV).length = i := by rw [List.length_map, h.len]
    rw [h2, ← h3, reps_set, h3, List.map_append]
    rfl
  rw [e1] at rw1
  have hXW := h.st.size
  refine ⟨by simp [h.len], ((h.st.trans hY).trans h1).aside g (fun b e => by cases e; exact ⟨hBp, rN⟩) hn, rw1, rN, (addG_other _ (by have := h.sp.lt; have := hb.size; omega)).trans h.spN, (up h.sp).kept g (fun e => hBs (by cases e; rfl)), (up h.ask).kept g (fun e => hA (by cases e; rfl)), fun i' b y hb' hy => ?_, fun M hm => ?_⟩
  · by_cases hi : i' < bs.length
    · rw [List.getElem?_append_left hi] at hb'
      obtain ⟨pv', e⟩ := h.each i' b y hb' hy
      exact ⟨pv', mono _ _ e⟩
    · have hi' : i' = bs.length := by
        have := (List.getElem?_eq_some_iff.1 hb').1
        simp at this
        omega
      subst hi'
      rw [List.getElem?_append_right (Nat.le_refl _), Nat.sub_self] at hb'
      simp at hb'
      subst hb'
      rw [h.len, hx] at hy
      cases hy
      exact ⟨xv, addG_same _ _ _⟩
  · have hlt := hM M hm
    rw [← h.mp M hm]
    refine (g.block M (by have := hb.size; simp; omega) (fun e => by cases e; omega)).trans ((Below.heap_alloc _ _ _ (by have := hb.size; omega)).trans (hb.block M (by omega)))
/-- When all are there. -/
theorem Lst.done {E : Env} {A k j f' Bp Bs f : Nat} {s : Sel} {p : Pt} {q : Ps} {pv fv lv : Value} {γ : Ghost} {W : World} {bs : List Nat} {γi : Ghost} {X : World} (h : Lst E A k j f' Bp Bs q pv fv lv γ W q.list.length bs γi X) (hI : Inv E γ W) (hA : γ A = some (.asked s pv f)) (hf : f = f' + 1) (hp : s[k]? = some p) (hq : p.2.pss[j]? = some q) (hBp : W.heap.size ≤ Bp) (hn : E.n₀ ≤ W.heap.size) :
    Step E γ W (addG γi Bp (.ptrs A k j)) X ∧ addG γi Bp (.ptrs A k j) A = some (.asked s pv f) := by
  have hAi := h.st.mono hI _ _ hA
  have mono : ∀ k' x, γi k' = some x → addG γi Bp (.ptrs A k j) k' = some x := fun k' x hk => by
    rw [addG_other _ (fun e => by rw [e, h.rowN] at hk; cases hk)]
    exact hk
  refine ⟨h.st.assign hBp h.rowN hn h.row ⟨s, pv, f, mono _ _ hAi, p, q, f', hp, hq, hf, bs, ?_, h.len, fun i' b x hb hx => let ⟨pv', e⟩ := h.each i' b x hb hx; ⟨pv', mono _ _ e⟩⟩, mono _ _ hAi⟩
  rw [Nat.sub_self]
  simp [reps]

end Go.Proofs.Ytgjfapdnobhkcab.Mt
