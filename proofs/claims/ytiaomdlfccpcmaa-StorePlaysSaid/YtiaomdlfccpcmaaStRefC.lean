/- The document's own store: New. -/
import Derived.Test.YtiaomdlfccpcmaaStRefB
namespace Go.Proofs.Ytiaomdlfccpcmaa.Sto
open Go Go.RowKit Sl

theorem cells_row (w : World) (l : List Value) (ty : TypeId) : ∀ j u, l[j]? = some u → (w.alloc (.cells l.toArray ty)).cell? ((⟨w.heap.size, 0, none⟩ : Addr).add j) = some u := fun j u hj => by
  have e : (⟨w.heap.size, 0, none⟩ : Addr).add j = ⟨w.heap.size, j, none⟩ := by
    unfold Addr.add
    split
    · simp_all
    · simp
  rw [e]
  simp [hj]
/-- append in a region that draws, where its run is known. -/
theorem step_app {P : Program} {ops : Array Oper} {Q : Exit → Act → World → Prop} {o : Oper} {a : Act} {w w' : World} {K : Act → World → Prop} {E : Prop} (hgd : o.guard = none) (s x : Operand) (t : TypeId)
    (ho : o.op = .call { callee := .builtin .append, args := #[s, x], argTypes := #[t, t] }) {v xv v' : Value} (hs : a.eval s = v) (hx : a.eval x = xv) (hrun : (Builtin.append_ #[t, t] o.type #[v, xv]).run P w = .ok v' w')
    (h : K (a.put o.dst v') w') : if Region.wanted o (yielded ops a.tmps) = true then Oper.wp P o a w K Q else E := by
  have hw : Region.wanted o (yielded ops a.tmps) = true := by simp [Region.wanted, hgd]
  rw [if_pos hw]
  unfold Oper.wp
  simp [execOp, ho, resolve, invoke, builtin, hs, hx, hrun, Result.andThen]
  exact h
/-- A struct more, laid behind the others. -/
theorem ref_grow {n₀ b : Nat} {w Y : World} {v : Value} {l : List He} (h : RS n₀ w b v l) (hb : Below w.heap.size w Y) (hl : l.length ≤ 100000) (s : Nat → Int) :
    ∃ p' cap' X3, (Builtin.append_ #[30, 30] 30 #[v, .slice (some ⟨Y.heap.size, 0, none⟩) 1 1]).run Try.prog (Y.alloc (.cells (heL (s, 1)).toArray 55)) = .ok (.slice p' (l.length + 1) cap') X3 ∧
      X3.cell? ⟨b, 0, none⟩ = some v ∧ X3.frozen? ⟨b, 0, none⟩ = false ∧ RS n₀ (X3.setCell ⟨b, 0, none⟩ (.slice p' (l.length + 1) cap')) b (.slice p' (l.length + 1) cap') (newL l s) ∧ ChR n₀ b w (X3.setCell ⟨b, 0, none⟩ (.slice p' (l.length + 1) cap')) := by
  obtain ⟨i0, hi, hz0, hz1, hz2⟩ := info_ofS infoRH
  have hlt := h.blk.lt
  have hlow := h.low
  have hY := hb.size
  obtain ⟨Z, hZ⟩ : ∃ Z, Y.alloc (.cells (heL (s, 1)).toArray 55) = Z := ⟨_, rfl⟩
  have hbZ : Below w.heap.size w Z := by rw [← hZ]; exact hb.alloc hY _
  have hZs : Z.heap.size = Y.heap.size + 1 := by rw [← hZ]; exact World.size_alloc _ _
  have hS := h.next hbZ
  have hcl := cells_row Y (heL (s, 1)) 55
  rw [hZ] at hcl ⊢
  obtain ⟨v', X3, hrun, hr3, hg3, _, hat⟩ := run_append_own_at (P := Try.prog) Z n₀ 30 30 55 i0 (.agg #[.int .i64 0, .int .i64 0, .int .i64 0, .int .i64 0, .int .i64 0, .int .i64 0, .int .i64 0, .int .i64 0, .int .i64 0]) 9 72 Try.underlying30 hi hz0 hz1 hz2 rfl (by decide) v l.length (flatH l) hS.row
    ⟨Y.heap.size, 0, none⟩ 1 1 (heL (s, 1)) rfl hcl (by intro u hu; simp only [heL, List.mem_cons, List.not_mem_nil, or_false] at hu; rcases hu with rfl | rfl | rfl | rfl | rfl | rfl | rfl | rfl | rfl <;> rfl) (by unfold maxLen; omega) (by omega) (by omega)
  obtain ⟨p', cap', rfl⟩ := owns_form hr3
  have hvb : v.ownBlock ≠ some b := fun e => h.ne (show w.heap[b]? = _ from h.blk) (by decide) e
  have hv'b : (Value.slice p' (l.length + 1) cap').ownBlock ≠ some b := by
    intro e
    rcases hat with h1 | h1
    · exact hvb (h1.symm.trans e)
    · rw [h1] at e
      have := Option.some.inj e
      omega
  have hbX : X3.heap[b]? = some (.cells #[v] 32 (0, 0)) := (hg3.block b hS.blk.lt (fun e => hvb e.symm)).trans hS.blk
  have hbk : Blk X3 b 32 [v] := hbX
  have gs := grown_set X3 b 0 (.slice p' (l.length + 1) cap')
  have hlen : (newL l s).length = l.length + 1 := by simp [newL]
  refine ⟨p', cap', X3, hrun, (blk1 hbk).1, (blk1 hbk).2, ⟨blk_put hbk 0 _, ?_, hlow⟩, ⟨?_, ?_, ?_, ?_, fun r hr hne ht => ?_⟩⟩
  · rw [hlen, show flatH (newL l s) = flatH l ++ heL (s, 1) by unfold newL; rw [flatH_app]; simp [flatH]]
    exact owns_same hr3 (fun r hr => gs.block r (owns_lt hr3 hr).2 (fun e => hv'b (by rw [hr, e])))
  · exact gs.os.trans (hg3.os.trans hbZ.os)
  · exact gs.tape.trans (hg3.tape.trans hbZ.tape)
  · exact gs.output.trans (hg3.output.trans hbZ.output)
  · have := gs.size; have := hg3.size; omega
  · have hrZ : r < Z.heap.size := by omega
    refine (gs.block r (by have := hg3.size; omega) (fun e => hne (Option.some.inj e))).trans ((hg3.block r hrZ (fun e => ?_)).trans (hbZ.block r hr))
    rcases h.row.2 with ⟨rfl, _⟩ | ⟨g, c, cur, rfl, hg0, hg, _⟩
    · simp [Value.ownBlock] at e
    · simp [Value.ownBlock] at e
      subst e
      exact ht hg0 _ hg

set_option maxRecDepth 100000 in
set_option maxHeartbeats 1000000 in
theorem refNew_any (n₀ b : Nat) (l : List He) (s : Nat → Int) (w : World) (hn : l.length ≤ 100000) (hS : RT n₀ w b l) :
    Calls Try.prog 8 #[.pointer (some ⟨b, 0, none⟩), sty s] w fun e w' => e = .returned (.int .i64 l.length) ∧ RT n₀ w' b (newL l s) ∧ ChR n₀ b w w' := by
  obtain ⟨v, hS⟩ := hS
  obtain ⟨W, hW⟩ : ∃ W, w.alloc (.cells (styL s).toArray 35) = W := ⟨_, rfl⟩
  have hb : Below w.heap.size w W := by rw [← hW]; exact (Below.refl _ _).alloc (Nat.le_refl _) _
  have hA : SAt W w.heap.size s := by rw [← hW]; exact SAt.new w s
  have hbd : Below w.heap.size w W.drew := below_drew hb
  obtain ⟨p', cap', X3, hrun, c3, f3, hS3, hC3⟩ := ref_grow hS hbd hn s
  obtain ⟨X4, hX4⟩ : ∃ X4, X3.setCell ⟨b, 0, none⟩ (.slice p' (l.length + 1) cap') = X4 := ⟨_, rfl⟩
  rw [hX4] at hS3 hC3
  have c4 := hS3.cells.1
  have FIN : Hid (RT n₀ X4 b (newL l s) ∧ ChR n₀ b w X4) := ⟨⟨_, hS3⟩, hC3⟩
  obtain ⟨c0, _⟩ := (hS.next hb).cells
  obtain ⟨a0, a1, a2, a3, a4, a5, a6, a7⟩ := hA.cells
  have hb0 : b ≠ W.heap.size := by have := hS.blk.lt; have := hb.size; omega
  have hZ0 : w.heap.size ≠ W.heap.size := by have := hA.lt; omega
  obtain ⟨Z, hZ⟩ : ∃ Z, W.drew.alloc (.cells (heL (s, 1)).toArray 55) = Z := ⟨_, rfl⟩
  have hkZ : Below W.heap.size W Z := by rw [← hZ]; exact (below_drew (Below.refl _ _)).alloc (Nat.le_refl _) _
  obtain ⟨z0, _⟩ := ((hS.next hb).next hkZ).cells
  obtain ⟨y0, y1, y2, y3, y4, y5, y6, y7⟩ := (hA.next hkZ).cells
  rw [hZ] at hrun
  have HA : Hid (_ ∧ _) := ⟨hZ, hX4⟩
  have hM : IntKind.i64.wrap ((l.length : Int) + 1 - 1) = l.length := by rw [IntKind.wrap_i64]; omega
  clear hS hb hA hbd hS3 hC3 hkZ hZ hX4
  generalize l.length = n at *
  simp only [styL] at hW
  go_enter Try.func8, Try.ntmps8
  go_upto_region 1 with fail
  clear hW
  have HeldS : W.drew.cell? ⟨b, 0, none⟩ = some v ∧ W.drew.cell? ⟨w.heap.size, 0, none⟩ = some (.int .i64 (s 0)) ∧ W.drew.cell? ⟨w.heap.size, 1, none⟩ = some (.int .i64 (s 1)) ∧ W.drew.cell? ⟨w.heap.size, 2, none⟩ = some (.int .i64 (s 2)) ∧ W.drew.cell? ⟨w.heap.size, 3, none⟩ = some (.int .i64 (s 3)) ∧ W.drew.cell? ⟨w.heap.size, 4, none⟩ = some (.int .i64 (s 4)) ∧ W.drew.cell? ⟨w.heap.size, 5, none⟩ = some (.int .i64 (s 5)) ∧ W.drew.cell? ⟨w.heap.size, 6, none⟩ = some (.int .i64 (s 6)) ∧ W.drew.cell? ⟨w.heap.size, 7, none⟩ = some (.int .i64 (s 7)) := ⟨c0, a0, a1, a2, a3, a4, a5, a6, a7⟩
  refine Rg.wpD_begin [4, 5, 6, 7] (fun Y => Y.cell? ⟨b, 0, none⟩ = some v ∧ Y.cell? ⟨w.heap.size, 0, none⟩ = some (.int .i64 (s 0)) ∧ Y.cell? ⟨w.heap.size, 1, none⟩ = some (.int .i64 (s 1)) ∧ Y.cell? ⟨w.heap.size, 2, none⟩ = some (.int .i64 (s 2)) ∧ Y.cell? ⟨w.heap.size, 3, none⟩ = some (.int .i64 (s 3)) ∧ Y.cell? ⟨w.heap.size, 4, none⟩ = some (.int .i64 (s 4)) ∧ Y.cell? ⟨w.heap.size, 5, none⟩ = some (.int .i64 (s 5)) ∧ Y.cell? ⟨w.heap.size, 6, none⟩ = some (.int .i64 (s 6)) ∧ Y.cell? ⟨w.heap.size, 7, none⟩ = some (.int .i64 (s 7))) (by kernel_rfl) ?_
  refine Rg.wpD_pure 0 (v := ?_) (by simp only [List.getElem?_toArray, List.getElem?_cons_zero]; rfl) (by kernel_rfl) (by kernel_rfl) (by intro _ _ _ h; exact h) (by rfl) (fun wz => ?_) ?_
  rotate_left
  · first | (go_simp; done) | (go_simp; with_reducible rfl)
  simp only [Act.put, List.setIfInBounds_toArray, List.set_cons_succ, List.set_cons_zero]
  refine Rg.wpD_pure 1 (v := ?_) (by simp only [List.getElem?_toArray, List.getElem?_cons_succ, List.getElem?_cons_zero]; rfl) (by kernel_rfl) (by kernel_rfl) (by intro _ _ _ h; exact h) (by rfl) (fun wz => ?_) ?_
  rotate_left
  · first | (go_simp; done) | (go_simp; with_reducible rfl)
  simp only [Act.put, List.setIfInBounds_toArray, List.set_cons_succ, List.set_cons_zero]
  refine Rg.wpD_pure 2 (v := ?_) (by simp only [List.getElem?_toArray, List.getElem?_cons_succ, List.getElem?_cons_zero]; rfl) (by kernel_rfl) (by kernel_rfl) (by intro _ _ _ h; exact h) (by rfl) (fun wz => ?_) ?_
  rotate_left
  · first | (go_simp; done) | (go_simp; with_reducible rfl)
  simp only [Act.put, List.setIfInBounds_toArray, List.set_cons_succ, List.set_cons_zero]
  refine Rg.wpD_pure 3 (v := ?_) (by simp only [List.getElem?_toArray, List.getElem?_cons_succ, List.getElem?_cons_zero]; rfl) (by kernel_rfl) (by kernel_rfl) (by intro _ _ _ h; exact h) (by rfl) (fun wz => ?_) ?_
  rotate_left
  · first | (go_simp; done) | (go_simp; with_reducible rfl)
  simp only [Act.put, List.setIfInBounds_toArray, List.set_cons_succ, List.set_cons_zero]
  refine Rg.wpD_load 4 (v := ?_) (by simp only [List.getElem?_toArray, List.getElem?_cons_succ, List.getElem?_cons_zero]; rfl) (by kernel_rfl) (by kernel_rfl) (by intro _ _ _ h; exact h) HeldS (by rfl) (fun wz hz => ?_) ?_
  rotate_left
  · first | (go_simp; done) | (go_simp; with_reducible rfl)
  simp only [Act.put, List.setIfInBounds_toArray, List.set_cons_succ, List.set_cons_zero]
  refine Rg.wpD_load 5 (v := ?_) (by simp only [List.getElem?_toArray, List.getElem?_cons_succ, List.getElem?_cons_zero]; rfl) (by kernel_rfl) (by kernel_rfl) (by intro _ _ _ h; exact h) HeldS (by rfl) (fun wz hz => ?_) ?_
  rotate_left
  · first | (go_simp; done) | (go_simp; with_reducible rfl)
  simp only [Act.put, List.setIfInBounds_toArray, List.set_cons_succ, List.set_cons_zero]
  refine Rg.wpD_load 6 (v := ?_) (by simp only [List.getElem?_toArray, List.getElem?_cons_succ, List.getElem?_cons_zero]; rfl) (by kernel_rfl) (by kernel_rfl) (by intro _ _ _ h; exact h) HeldS (by rfl) (fun wz hz => ?_) ?_
  rotate_left
  · first | (go_simp; done) | (go_simp; with_reducible rfl)
  simp only [Act.put, List.setIfInBounds_toArray, List.set_cons_succ, List.set_cons_zero]
  clear HeldS
  have HZ : W.drew.alloc (.cells #[.int .i64 (s 0), .int .i64 (s 1), .int .i64 (s 2), .int .i64 (s 3), .int .i64 (s 4), .int .i64 (s 5), .int .i64 (s 6), .int .i64 (s 7), .int .i64 1] 55) = Z := HA.out.1
  refine Rg.wpD_do 7 (by kernel_rfl) (by simp only [List.getElem?_toArray, List.getElem?_cons_succ, List.getElem?_cons_zero]; rfl) (fun K hK => ?_)
  go_simp
  refine hK _ _ (fun _ => ⟨z0, y0, y1, y2, y3, y4, y5, y6, y7⟩) ?_
  clear hK K
  refine Rg.wpD_do 8 (by kernel_rfl) (by simp only [List.getElem?_toArray, List.getElem?_cons_succ, List.getElem?_cons_zero]; rfl) (fun K hK => ?_)
  refine step_app rfl _ _ 30 rfl rfl rfl hrun (hK _ _ (fun h => absurd h (by decide)) ?_)
  clear hK K hrun
  refine Rg.wpD_pure 9 (v := ?_) (by simp only [List.getElem?_toArray, List.getElem?_cons_succ, List.getElem?_cons_zero]; rfl) (by kernel_rfl) (by kernel_rfl) (by intro _ _ _ h; exact h) (by rfl) (fun wz => ?_) ?_
  rotate_left
  · first | (go_simp; done) | (go_simp; with_reducible rfl)
  simp only [Act.put, List.setIfInBounds_toArray, List.set_cons_succ, List.set_cons_zero]
  refine Rg.wpD_pure 10 (v := ?_) (by simp only [List.getElem?_toArray, List.getElem?_cons_succ, List.getElem?_cons_zero]; rfl) (by kernel_rfl) (by kernel_rfl) (by intro _ _ _ h; exact h) (by rfl) (fun wz => ?_) ?_
  rotate_left
  · first | (go_simp; done) | (go_simp; with_reducible rfl)
  simp only [Act.put, List.setIfInBounds_toArray, List.set_cons_succ, List.set_cons_zero]
  refine Rg.wpD_do 11 (by kernel_rfl) (by simp only [List.getElem?_toArray, List.getElem?_cons_succ, List.getElem?_cons_zero]; rfl) (fun K hK => ?_)
  go_simp
  have HX : X3.setCell ⟨b, 0, none⟩ (.slice p' (n + 1) cap') = X4 := HA.out.2
  rw [HX]
  refine hK _ _ (fun h => absurd h (by decide)) ?_
  clear hK K
  refine Rg.wpD_done (by kernel_rfl) ?_
  go_wp2
  go_ret
  exact ⟨rfl, FIN.out⟩

end Go.Proofs.Ytiaomdlfccpcmaa.Sto
