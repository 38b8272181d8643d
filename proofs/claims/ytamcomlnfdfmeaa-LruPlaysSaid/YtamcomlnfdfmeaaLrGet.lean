/- Package lru: Get at every cache. -/
import Derived.Test.YtamcomlnfdfmeaaLrPut
namespace Go.Proofs.Ytamcomlnfdfmeaa.Lr
open Go Go.RowKit Go.Shelf Sl
attribute [local go_sem] Oper.semAt_some

theorem results_cells {fn : Func} {p q : Tmp} {ty ty2 : TypeId} (h : fn.results = #[.cell p ty, .cell q ty2]) (tmps : Array Value) (w : World) (g g2 : Nat) (x y : Value)
    (hp : tmps.getD p undef = .pointer (some ⟨g, 0, none⟩)) (hq : tmps.getD q undef = .pointer (some ⟨g2, 0, none⟩)) (hl : (loadVar ty ⟨g, 0, none⟩).run Try.prog w = .ok x w) (hl2 : (loadVar ty2 ⟨g2, 0, none⟩).run Try.prog w = .ok y w) :
    (results fn tmps).run Try.prog w = .ok (.tuple #[x, y]) w := by
  have hp' : tmps[p]?.getD undef = .pointer (some ⟨g, 0, none⟩) := by simpa using hp
  have hq' : tmps[q]?.getD undef = .pointer (some ⟨g2, 0, none⟩) := by simpa using hq
  simp [results, h, hp', hq', asAddr, hl, hl2]
theorem loadI {w : World} {g : Nat} {n : Int} (hc : w.cell? ⟨g, 0, none⟩ = some (.int .i64 n)) : (loadVar 3 ⟨g, 0, none⟩).run Try.prog w = .ok (.int .i64 n) w := by
  simp [loadVar, isAgg, Sem.run_bind, Result.andThen, load, hc, Sem.run]
theorem loadB {w : World} {g : Nat} {n : Bool} (hc : w.cell? ⟨g, 0, none⟩ = some (.bool n)) : (loadVar 4 ⟨g, 0, none⟩).run Try.prog w = .ok (.bool n) w := by
  simp [loadVar, isAgg, Sem.run_bind, Result.andThen, load, hc, Sem.run]

/-- It was found: what lies then. -/
def Got (w : World) (b s : Nat) (l : List En) (k : Int) (c : Code) (E : Nat → Prop) (X : World) : Prop :=
  c = .ret ∧ ∃ v' e, (∀ r, E r ↔ (r = b ∨ r = w.heap.size + 2 ∨ r = w.heap.size + 3) ∨ v'.ownBlock = some r) ∧ hasV l k = some e ∧ LV X b s v' (ledV l k e.2) ∧ Boxed X (w.heap.size + 2) 3 (.int .i64 e.2) ∧ Boxed X (w.heap.size + 3) 4 (.bool true)

set_option maxRecDepth 100000 in
set_option maxHeartbeats 2000000 in
theorem rget_any (b s : Nat) (v : Value) (l : List En) (k : Int) (w : World) (h : LV w b s v l) :
    Calls Try.prog 19 #[.pointer (some ⟨b, 0, none⟩), .int .i64 k] w fun e w' => e = .returned (.tuple #[.int .i64 (getR l k).1, .bool (getR l k).2]) ∧ ∃ v', LV w' b s v' (getL l k) ∧ Fr (fun r => r = b) (fun r => r = b) w w' := by
  refine (callsIn_wide (n := 5)).1 ?_
  refine callsIn_of_wp_marks Try.func19 rfl trivial ?_ rfl
  simp only [Try.ntmps19, List.size_toArray, List.length_cons, List.length_nil, Nat.reduceAdd, Nat.reduceSub, Array.replicate_succ, Array.replicate_zero, List.push_toArray, List.append_toArray, List.nil_append, List.cons_append]
  have hbw := h.lt
  obtain ⟨W1, hW1⟩ : ∃ W1, (((w.alloc (.cells #[.pointer (some ⟨b, 0, none⟩)] 53)).alloc (.cells #[.int .i64 k] 3)).alloc (.cells #[.int .i64 0] 3)).alloc (.cells #[.bool false] 4) = W1 := ⟨_, rfl⟩
  have bP : Boxed W1 w.heap.size 53 (.pointer (some ⟨b, 0, none⟩)) := by rw [← hW1]; exact (((Boxed.new w _ _).alloc _).alloc _).alloc _
  have bK : Boxed W1 (w.heap.size + 1) 3 (.int .i64 k) := by
    rw [← hW1]
    have := Boxed.new (w.alloc (.cells #[.pointer (some ⟨b, 0, none⟩)] 53)) 3 (.int .i64 k)
    rw [World.size_alloc] at this
    exact (this.alloc _).alloc _
  have b4 : Boxed W1 (w.heap.size + 2) 3 (.int .i64 0) := by
    rw [← hW1]
    have := Boxed.new ((w.alloc (.cells #[.pointer (some ⟨b, 0, none⟩)] 53)).alloc (.cells #[.int .i64 k] 3)) 3 (.int .i64 0)
    rw [World.size_alloc, World.size_alloc] at this
    exact this.alloc _
  have b5 : Boxed W1 (w.heap.size + 3) 4 (.bool false) := by
    rw [← hW1]
    have := Boxed.new (((w.alloc (.cells #[.pointer (some ⟨b, 0, none⟩)] 53)).alloc (.cells #[.int .i64 k] 3)).alloc (.cells #[.int .i64 0] 3)) 4 (.bool false)
    rw [World.size_alloc, World.size_alloc, World.size_alloc] at this
    exact this
  have bb : Below w.heap.size w W1 := by
    rw [← hW1]
    exact (((((Below.refl _ w).alloc (Nat.le_refl _) _).alloc (by simp) _).alloc (by simp; omega) _).alloc (by simp; omega) _)
  have ss : W1.heap.size = w.heap.size + 4 := by rw [← hW1]; simp
  have hv1 : LV W1 b s v l := h.next bb
  have cP := bP.cell
  have H : Hid (_ ∧ _ ∧ _ ∧ _ ∧ _ ∧ _ ∧ _) := ⟨hv1, bP, bK, b4, b5, bb, ss⟩
  clear h hv1 bP bK b4 b5 bb ss
  gi_wp2_with fail
  refine ⟨trivial, ?_⟩
  refine (callsIn_wide.2 (all_any b _)).mono ?_
  rintro e w2 ⟨rfl, hw2⟩
  rw [H.out.2.2.2.2.2.2]
  have bw2 : Below W1.heap.size W1 w2 := by rw [hw2]; exact (Below.refl _ _).alloc (Nat.le_refl _) _
  have s2 : w2.heap.size = w.heap.size + 5 := by rw [hw2, World.size_alloc, H.out.2.2.2.2.2.2]
  have cA : w2.cell? ⟨w.heap.size + 4, 0, none⟩ = some (.pointer (some ⟨b, 0, none⟩)) := by
    have := (Boxed.new W1 53 (.pointer (some ⟨b, 0, none⟩))).cell
    rw [H.out.2.2.2.2.2.2] at this
    rw [hw2]; exact this
  have hv2 : LV w2 b s v l := H.out.1.next bw2
  have kp2 : ∀ {r : Nat} {t : TypeId} {u : Value}, Boxed W1 r t u → Boxed w2 r t u := fun hb => (bw2.block _ hb.lt).trans hb
  have H2 : Hid (_ ∧ _ ∧ _ ∧ _ ∧ _ ∧ _ ∧ _ ∧ _) := ⟨hv2, kp2 H.out.2.1, kp2 H.out.2.2.1, kp2 H.out.2.2.2.1, kp2 H.out.2.2.2.2.1, H.out.2.2.2.2.2.1.trans (bw2.mono (by have := H.out.2.2.2.2.2.2; omega)), s2, cA⟩
  clear hW1 hw2 bw2 s2 cA hv2 kp2 cP
  gi_wp2_with fail
  have s2 := H2.out.2.2.2.2.2.2.1
  refine wpIn_rangeFunc_E rfl (by decide) (gf := 23) (lb := #[.pointer (some ⟨w.heap.size + 4, 0, none⟩)]) rfl trivial egEnt (all_seq 4 (w.heap.size + 4) b s v l w2 H2.out.2.2.2.2.2.2.2 H2.out.1) (fun _ => rfl)
    (fun pre E X => (∀ r, E r ↔ r = b ∨ r = w.heap.size + 2 ∨ r = w.heap.size + 3) ∧ (∀ x ∈ pre, x.1 ≠ k) ∧ X.heap[b]? = w2.heap[b]? ∧ Boxed X (w.heap.size + 2) 3 (.int .i64 0) ∧ Boxed X (w.heap.size + 3) 4 (.bool false))
    (fun c pre E X => Got w b s l k c E X)
    ?hI ?hIx (fun r => r = b ∨ r = w.heap.size + 2 ∨ r = w.heap.size + 3) ?hD ?hRD ?hRw (Nat.le_refl _)
    ⟨fun _ => Iff.rfl, (fun x hx => by simp at hx), rfl, H2.out.2.2.2.1, H2.out.2.2.2.2.1⟩
    (fun pre y E a' X => ((∀ r, E r ↔ r = b ∨ r = w.heap.size + 2 ∨ r = w.heap.size + 3) ∧ (∀ x ∈ pre, x.1 ≠ k) ∧ X.heap[b]? = w2.heap[b]? ∧ Boxed X (w.heap.size + 2) 3 (.int .i64 0) ∧ Boxed X (w.heap.size + 3) 4 (.bool false)) ∧ a' = { tmps := #[.pointer (some ⟨b, 0, none⟩), .int .i64 k, .pointer (some ⟨w.heap.size, 0, none⟩), .pointer (some ⟨w.heap.size + 1, 0, none⟩), .pointer (some ⟨w.heap.size + 1 + 1, 0, none⟩), .pointer (some ⟨w.heap.size + 1 + 1 + 1, 0, none⟩), .int .i64 y.1, .int .i64 y.2, undef, .pointer (some ⟨b, 0, none⟩), .func (.func 23) #[] #[.pointer (some ⟨w.heap.size + 4, 0, none⟩)], .int .i64 y.1, .int .i64 y.2, undef, undef, undef, undef, undef, undef, undef, undef, undef, undef, undef, undef], defers := [] })
    ?hAx ?assign ?body ?done ?stop
  case hI =>
    rintro s E X Y ⟨h1, h2, h3, h4, h5⟩ hk
    exact ⟨h1, h2, (hk.same _ ((h1 _).2 (.inl rfl))).trans h3, (hk.same _ ((h1 _).2 (.inr (.inl rfl)))).trans h4, (hk.same _ ((h1 _).2 (.inr (.inr rfl)))).trans h5⟩
  case hIx =>
    rintro c s E X Y ⟨h0, v', e, h1, h2, h3, h4, h5⟩ hk
    exact ⟨h0, v', e, h1, h2, h3.kept (hk.same _ ((h1 _).2 (.inl (.inl rfl)))) (fun r hr => hk.same _ ((h1 _).2 (.inr hr))), (hk.same _ ((h1 _).2 (.inl (.inr (.inl rfl))))).trans h4, (hk.same _ ((h1 _).2 (.inl (.inr (.inr rfl))))).trans h5⟩
  case hAx =>
    rintro s y a' _ E X Y ⟨⟨h1, h2, h3, h4, h5⟩, h6⟩ hk
    exact ⟨⟨h1, h2, (hk.same _ ((h1 _).2 (.inl rfl))).trans h3, (hk.same _ ((h1 _).2 (.inr (.inl rfl)))).trans h4, (hk.same _ ((h1 _).2 (.inr (.inr rfl)))).trans h5⟩, h6⟩
  case hD => rintro r (rfl | rfl | rfl) <;> omega
  case hRD =>
    intro r hr
    have h1 := H2.out.1.row.lt hr
    have h2 := H.out.1.row.lt hr
    have h3 : r ≠ b := fun e => H2.out.1.row.ne H2.out.1.blk (by decide) (by rw [hr, e])
    have h4 : r ≠ w.heap.size + 2 := fun e => H2.out.1.row.ne H2.out.2.2.2.1 (by decide) (by rw [hr, e])
    have h5 : r ≠ w.heap.size + 3 := fun e => H2.out.1.row.ne H2.out.2.2.2.2.1 (by decide) (by rw [hr, e])
    exact ⟨h1, fun e => e.elim h3 (fun e => e.elim h4 h5)⟩
  case hRw =>
    rintro r (rfl | rfl | hr)
    · exact ⟨by omega, rfl⟩
    · exact ⟨by omega, rfl⟩
    · exact ⟨H2.out.1.row.lt hr, rfl⟩
  case assign =>
    intro l' pre y D1 Wx K hi hfr hK
    gi_wp2
    exact hK _ D1 _ (Fr.refl hfr.lt) ⟨hi, rfl⟩
  case body =>
    rintro l' pre y post D2 a' X heq ⟨⟨hE, hpre, hXb, hb4, hb5⟩, rfl⟩ hfr _ hnl hlw
    have HFR : Hid (Fr _ _ _ _) := hfr
    have cP := hfr.keep (p := ⟨w.heap.size, 0, none⟩) (fun e => by simp at e; omega) H2.out.2.1.cell
    have cK := hfr.keep (p := ⟨w.heap.size + 1, 0, none⟩) (fun e => by simp at e; omega) H2.out.2.2.1.cell
    have hvX : LV X b s v l := H2.out.1.kept hXb (fun r hr => hfr.block r (H2.out.1.row.lt hr) (by
      have h3 : r ≠ b := fun e => H2.out.1.row.ne H2.out.1.blk (by decide) (by rw [hr, e])
      have h4 : r ≠ w.heap.size + 2 := fun e => H2.out.1.row.ne H2.out.2.2.2.1 (by decide) (by rw [hr, e])
      have h5 : r ≠ w.heap.size + 3 := fun e => H2.out.1.row.ne H2.out.2.2.2.2.1 (by decide) (by rw [hr, e])
      exact fun e => e.elim h3 (fun e => e.elim h4 h5)))
    obtain ⟨y1, y2⟩ := y
    have HE : Hid (∀ r, D2 r ↔ r = b ∨ r = w.heap.size + 2 ∨ r = w.heap.size + 3) := hE
    have hXlt : w.heap.size + 3 < X.heap.size := hb5.lt
    by_cases hy : y1 = k
    · have hne : (y1 == k) = true := by simp [hy]
      have hled := led_any b s v l k y2 X.drew hvX.drew
      have HG : Hid (hasV l k = some (y1, y2)) := has_split heq hpre hy
      have HX : Hid (_ ∧ _ ∧ _) := ⟨hvX, hb4, hb5⟩
      have HeldS : X.drew.cell? ⟨w.heap.size, 0, none⟩ = some (.pointer (some ⟨b, 0, none⟩)) ∧ X.drew.cell? ⟨w.heap.size + 1, 0, none⟩ = some (.int .i64 k) := ⟨cP, cK⟩
      have HH : Hid (∀ Y, Below X.drew.heap.size X.drew Y → Y.cell? ⟨w.heap.size, 0, none⟩ = some (.pointer (some ⟨b, 0, none⟩)) ∧ Y.cell? ⟨w.heap.size + 1, 0, none⟩ = some (.int .i64 k)) := fun Y hY =>
        ⟨(hY.cell (World.block_lt_of_cell? X.drew _ HeldS.1)).trans HeldS.1, (hY.cell (World.block_lt_of_cell? X.drew _ HeldS.2)).trans HeldS.2⟩
      have HXL : Hid (_ ∧ _) := ⟨hXlt, hbw⟩
      clear heq hE hpre hXb hb4 hb5 hfr hnl hlw hvX hy s2 hbw hXlt
      gi_wp2_with fail
      refine Rg.wpD_round [0, 1, 2, 3, 4] (fun Y => Y.cell? ⟨w.heap.size, 0, none⟩ = some (.pointer (some ⟨b, 0, none⟩)) ∧ Y.cell? ⟨w.heap.size + 1, 0, none⟩ = some (.int .i64 k)) (by kernel_rfl) (by kernel_rfl) ?_
      refine Rg.wpD_load 0 (v := ?_) (by simp only [List.getElem?_toArray, List.getElem?_cons_zero]; rfl) (by kernel_rfl) (by kernel_rfl) (by intro _ _ _ h; exact h) HeldS (by rfl) (fun wz hz => ?_) ?_
      rotate_left
      · first | (go_simp; done) | (go_simp; with_reducible rfl)
      simp only [Act.put, List.setIfInBounds_toArray, List.set_cons_succ, List.set_cons_zero]
      refine Rg.wpD_load 1 (v := ?_) (by simp only [List.getElem?_toArray, List.getElem?_cons_succ, List.getElem?_cons_zero]; rfl) (by kernel_rfl) (by kernel_rfl) (by intro _ _ _ h; exact h) HeldS (by rfl) (fun wz hz => ?_) ?_
      rotate_left
      · first | (go_simp; done) | (go_simp; with_reducible rfl)
      simp only [Act.put, List.setIfInBounds_toArray, List.set_cons_succ, List.set_cons_zero]
      refine Rg.wpD_load 2 (v := ?_) (by simp only [List.getElem?_toArray, List.getElem?_cons_succ, List.getElem?_cons_zero]; rfl) (by kernel_rfl) (by kernel_rfl) (by intro _ _ _ h; exact h) HeldS (by rfl) (fun wz hz => ?_) ?_
      rotate_left
      · first | (go_simp; done) | (go_simp; with_reducible rfl)
      simp only [Act.put, List.setIfInBounds_toArray, List.set_cons_succ, List.set_cons_zero]
      refine Rg.wpD_load 3 (v := ?_) (by simp only [List.getElem?_toArray, List.getElem?_cons_succ, List.getElem?_cons_zero]; rfl) (by kernel_rfl) (by kernel_rfl) (by intro _ _ _ h; exact h) HeldS (by rfl) (fun wz hz => ?_) ?_
      rotate_left
      · first | (go_simp; done) | (go_simp; with_reducible rfl)
      simp only [Act.put, List.setIfInBounds_toArray, List.set_cons_succ, List.set_cons_zero]
      clear HeldS
      refine Rg.wpD_do 4 (by kernel_rfl) (by simp only [List.getElem?_toArray, List.getElem?_cons_succ, List.getElem?_cons_zero]; rfl) (fun K hK => ?_)
      go_simp
      refine Calls.mono hled ?_
      clear hled
      rintro e W5 ⟨v', rfl, hr5, hb5⟩
      have HB : Hid (_ ∧ _) := ⟨hr5, hb5⟩
      obtain ⟨q, cq, rfl⟩ := owns_form hr5
      refine hK _ _ (fun _ => HH.out _ HB.out.2) ?_
      clear hK K hr5
      have hvW : LV W5 b s v l := HX.out.1.drew.next hb5
      obtain ⟨_, z1, z2⟩ := hvW.cells
      have HV : Hid (LV W5 b s v l) := hvW
      clear hvW hb5
      refine Rg.wpD_do 5 (by kernel_rfl) (by simp only [List.getElem?_toArray, List.getElem?_cons_succ, List.getElem?_cons_zero]; rfl) (fun K hK => ?_)
      go_simp
      refine hK _ _ (fun h => absurd h (by decide)) ?_
      clear hK K
      refine Rg.wpD_do 6 (by kernel_rfl) (by simp only [List.getElem?_toArray, List.getElem?_cons_succ, List.getElem?_cons_zero]; rfl) (fun K hK => ?_)
      go_simp
      refine hK _ _ (fun h => absurd h (by decide)) ?_
      clear hK K
      refine Rg.wpD_do 7 (by kernel_rfl) (by simp only [List.getElem?_toArray, List.getElem?_cons_succ, List.getElem?_cons_zero]; rfl) (fun K hK => ?_)
      go_simp
      refine hK _ _ (fun h => absurd h (by decide)) ?_
      clear hK K
      obtain ⟨W6, hW6⟩ : ∃ W6, W5.setCell ⟨b, 1, none⟩ (.slice q (ledV l k y2).length cq) = W6 := ⟨_, rfl⟩
      rw [hW6]
      have g6 : W5.grownBy W6 (some b) := by rw [← hW6]; exact setCell_grown _ _ _ _
      have hled6 : LE W5 (.slice q (ledV l k y2).length cq) (ledV l k y2) := owns_baseL HB.out.1 (Nat.zero_le _)
      have hv6 : LV W6 b s (.slice q (ledV l k y2).length cq) (ledV l k y2) := by
        rw [← hW6]
        have hg := HV.out.good.get k
        unfold getL at hg
        rw [HG.out] at hg
        exact HV.out.set (by decide) hled6 hg
      have old : ∀ r, r < X.heap.size → r ≠ b → W6.heap[r]? = X.heap[r]? := fun r h1 h2 => (g6.block r (Nat.lt_of_lt_of_le h1 HB.out.2.size) (fun e => h2 (Option.some.inj e))).trans (HB.out.2.block r h1)
      obtain ⟨hXL, hbW⟩ := HXL.out
      have k4 : Boxed W6 (w.heap.size + 1 + 1) 3 (.int .i64 0) := (old _ (by omega) (by omega)).trans HX.out.2.1
      have k5 : Boxed W6 (w.heap.size + 1 + 1 + 1) 4 (.bool false) := (old _ (by omega) (by omega)).trans HX.out.2.2
      obtain ⟨W7, hW7⟩ : ∃ W7, W6.setCell ⟨w.heap.size + 1 + 1, 0, none⟩ (.int .i64 y2) = W7 := ⟨_, rfl⟩
      have k5' : Boxed W7 (w.heap.size + 1 + 1 + 1) 4 (.bool false) := by rw [← hW7]; exact k5.other (by omega) _
      have k4' : Boxed W7 (w.heap.size + 1 + 1) 3 (.int .i64 y2) := by rw [← hW7]; exact k4.set _
      obtain ⟨W8, hW8⟩ : ∃ W8, W7.setCell ⟨w.heap.size + 1 + 1 + 1, 0, none⟩ (.bool true) = W8 := ⟨_, rfl⟩
      have m5 : Boxed W8 (w.heap.size + 1 + 1 + 1) 4 (.bool true) := by rw [← hW8]; exact k5'.set _
      have m4 : Boxed W8 (w.heap.size + 1 + 1) 3 (.int .i64 y2) := by rw [← hW8]; exact k4'.other (by omega) _
      have g7 : W6.grownBy W7 (some (w.heap.size + 1 + 1)) := by rw [← hW7]; exact grownBy_setCell' _ _ _
      have g8 : W7.grownBy W8 (some (w.heap.size + 1 + 1 + 1)) := by rw [← hW8]; exact grownBy_setCell' _ _ _
      have a1 := k4.cell
      have a2 := k4.frozen
      have a3 := k5'.cell
      have a4 := k5'.frozen
      have hv8 : LV W8 b s (.slice q (ledV l k y2).length cq) (ledV l k y2) := by
        have n1 : b ≠ w.heap.size + 1 + 1 := by omega
        have n2 : b ≠ w.heap.size + 1 + 1 + 1 := by omega
        refine hv6.kept ((g8.block b (by have := hv6.lt; have := g7.size; omega) (fun e => n2 (Option.some.inj e))).trans (g7.block b hv6.lt (fun e => n1 (Option.some.inj e)))) (fun r hr => ?_)
        have r1 := hv6.row.lt hr
        have r2 : r ≠ w.heap.size + 1 + 1 := fun e => hv6.row.ne k4 (by decide) (by rw [hr, e])
        have r3 : r ≠ w.heap.size + 1 + 1 + 1 := fun e => hv6.row.ne k5 (by decide) (by rw [hr, e])
        exact (g8.block r (by have := g7.size; omega) (fun e => r3 (Option.some.inj e))).trans (g7.block r r1 (fun e => r2 (Option.some.inj e)))
      have hq : ∀ r, (Value.slice q (ledV l k y2).length cq).ownBlock = some r → X.heap.size ≤ r ∧ r < W8.heap.size := fun r hr => ⟨(owns_lt HB.out.1 hr).1, hv8.row.lt hr⟩
      have hs8 : X.heap.size ≤ W8.heap.size := Nat.le_trans HB.out.2.size (Nat.le_trans g6.size (Nat.le_trans g7.size g8.size))
      have FIN : Hid (∃ D', Got w b s l k .ret D' W8 ∧ Fr D2 D' X W8) := by
        refine ⟨fun r => (r = b ∨ r = w.heap.size + 2 ∨ r = w.heap.size + 3) ∨ (Value.slice q (ledV l k y2).length cq).ownBlock = some r, ⟨rfl, _, (y1, y2), fun _ => Iff.rfl, HG.out, hv8, m4, m5⟩, ?_⟩
        have hb := HB.out.2
        refine ⟨g8.os.trans (g7.os.trans (g6.os.trans hb.os)), ?_, g8.output.trans (g7.output.trans (g6.output.trans hb.output)), hs8, fun r h1 h2 => ?_, fun r hr => ?_, fun r hr => ?_⟩
        · exact g8.tape.trans (g7.tape.trans (g6.tape.trans hb.tape))
        · have n0 : r ≠ b := fun e => h2 ((HE.out r).2 (.inl e))
          have n1 : r ≠ w.heap.size + 1 + 1 := fun e => h2 ((HE.out r).2 (.inr (.inl e)))
          have n2 : r ≠ w.heap.size + 1 + 1 + 1 := fun e => h2 ((HE.out r).2 (.inr (.inr e)))
          have h6 : r < W6.heap.size := Nat.lt_of_lt_of_le h1 (Nat.le_trans hb.size g6.size)
          exact (g8.block r (Nat.lt_of_lt_of_le h6 g7.size) (fun e => n2 (Option.some.inj e))).trans ((g7.block r h6 (fun e => n1 (Option.some.inj e))).trans (old r h1 n0))
        · rcases hr with hr | hr
          · exact .inl ((HE.out r).2 hr)
          · exact .inr (hq r hr).1
        · rcases hr with (hr | hr | hr) | hr
          · subst hr; exact hv8.lt
          · subst hr; exact m4.lt
          · subst hr; exact m5.lt
          · exact (hq r hr).2
      clear hW6 g6 hled6 hv6 old hXL k4 k5 k5' k4' m5 m4 g7 g8 hv8 hq hs8 z1 z2 cP cK
      refine Rg.wpD_done (by kernel_rfl) ?_
      simp only [Rg.onlyK]
      gi_wp2
      exact FIN.out
    · have hne : (y1 == k) = false := by simp [hy]
      clear hnl hlw s2 hbw
      have HX : Hid (_ ∧ _ ∧ _ ∧ _) := ⟨hpre, hXb, hb4, hb5⟩
      clear heq hE hpre hXb hb4 hb5 hfr hvX hXlt
      gi_wp2
      refine ⟨D2, ⟨HE.out, fun x hx => ?_, HX.out.2⟩, Fr.refl HFR.out.lt⟩
      rcases List.mem_append.1 hx with hx | hx
      · exact HX.out.1 x hx
      · simp at hx; subst hx; exact hy
  case done =>
    rintro E X ⟨hE, hpre, hXb, hb4, hb5⟩ hfr hK hnE
    have hvX : LV X b s v l := H2.out.1.kept hXb (fun r hr => hfr.block r (H2.out.1.row.lt hr) (by
      have h3 : r ≠ b := fun e => H2.out.1.row.ne H2.out.1.blk (by decide) (by rw [hr, e])
      have h4 : r ≠ w.heap.size + 2 := fun e => H2.out.1.row.ne H2.out.2.2.2.1 (by decide) (by rw [hr, e])
      have h5 : r ≠ w.heap.size + 3 := fun e => H2.out.1.row.ne H2.out.2.2.2.2.1 (by decide) (by rw [hr, e])
      exact fun e => e.elim h3 (fun e => e.elim h4 h5)))
    have h1 : Fr (fun r => r = b) (fun r => r = b ∨ r = w.heap.size + 2 ∨ r = w.heap.size + 3) w w2 := (Fr.of_below (D := fun r => r = b) H2.out.2.2.2.2.2.1 (fun r e => by omega)).names (fun _ e => e) (fun r e => ⟨by omega, by omega⟩)
    have hfw : Fr (fun r => r = b) (fun r => r = b) w X := (h1.trans hfr).names (fun _ e => e) (fun r e => ⟨.inr (.inl e), by have := hvX.lt; omega⟩)
    have hno : hasV l k = none := has_not hpre
    obtain ⟨W7, hW7⟩ : ∃ W7, X.setCell ⟨w.heap.size + 1 + 1, 0, none⟩ (.int .i64 0) = W7 := ⟨_, rfl⟩
    have k5' : Boxed W7 (w.heap.size + 1 + 1 + 1) 4 (.bool false) := by rw [← hW7]; exact hb5.other (by omega) _
    have k4' : Boxed W7 (w.heap.size + 1 + 1) 3 (.int .i64 0) := by rw [← hW7]; exact Boxed.set _ hb4
    obtain ⟨W8, hW8⟩ : ∃ W8, W7.setCell ⟨w.heap.size + 1 + 1 + 1, 0, none⟩ (.bool false) = W8 := ⟨_, rfl⟩
    have m5 : Boxed W8 (w.heap.size + 1 + 1 + 1) 4 (.bool false) := by rw [← hW8]; exact k5'.set _
    have m4 : Boxed W8 (w.heap.size + 1 + 1) 3 (.int .i64 0) := by rw [← hW8]; exact k4'.other (by omega) _
    have g7 : X.grownBy W7 (some (w.heap.size + 1 + 1)) := by rw [← hW7]; exact grownBy_setCell' _ _ _
    have g8 : W7.grownBy W8 (some (w.heap.size + 1 + 1 + 1)) := by rw [← hW8]; exact grownBy_setCell' _ _ _
    have hs2X : w2.heap.size < X.heap.size := (Array.getElem?_eq_some_iff.1 hK).1
    have d8 : W8.heap[w2.heap.size]? = some (.deferred (some [])) := (g8.block _ (by have := g7.size; omega) (by simp; omega)).trans ((g7.block _ hs2X (by simp; omega)).trans hK)
    have g9 : W8.grownBy (W8.putObj w2.heap.size (.deferred none)) (some w2.heap.size) := grownBy_putObj' _ _ _
    have m4' : Boxed (W8.putObj w2.heap.size (.deferred none)) (w.heap.size + 1 + 1) 3 (.int .i64 0) := m4.kept g9 (by simp; omega)
    have m5' : Boxed (W8.putObj w2.heap.size (.deferred none)) (w.heap.size + 1 + 1 + 1) 4 (.bool false) := m5.kept g9 (by simp; omega)
    have hfin : Fr (fun r => r = b) (fun r => r = b) w (W8.putObj w2.heap.size (.deferred none)) := ((hfw.grown g7 (fun r e => by cases e; exact .inr (by omega))).grown g8 (fun r e => by cases e; exact .inr (by omega))).grown g9 (fun r e => by cases e; exact .inr (by omega))
    have hvF : LV (W8.putObj w2.heap.size (.deferred none)) b s v l := H2.out.1.kept (((g9.block b (by have := hvX.lt; have := g7.size; have := g8.size; omega) (by simp; omega)).trans ((g8.block b (by have := hvX.lt; have := g7.size; omega) (by simp; omega)).trans (g7.block b hvX.lt (by simp; omega)))).trans hXb) (fun r hr => by
      have h0 := H2.out.1.row.lt hr
      have h00 := hvX.row.lt hr
      have h4 : r ≠ w.heap.size + 1 + 1 := fun e => H2.out.1.row.ne H2.out.2.2.2.1 (by decide) (by rw [hr, e])
      have h5 : r ≠ w.heap.size + 1 + 1 + 1 := fun e => H2.out.1.row.ne H2.out.2.2.2.2.1 (by decide) (by rw [hr, e])
      have h3 : r ≠ b := fun e => H2.out.1.row.ne H2.out.1.blk (by decide) (by rw [hr, e])
      exact (g9.block r (by have := g7.size; have := g8.size; omega) (by simp; omega)).trans ((g8.block r (by have := g7.size; omega) (fun e => h5 (Option.some.inj e))).trans ((g7.block r h00 (fun e => h4 (Option.some.inj e))).trans (hfr.block r h0 (fun e => e.elim h3 (fun e => e.elim h4 h5))))))
    have a1 := hb4.cell
    have a2 := hb4.frozen
    have a3 := k5'.cell
    have a4 := k5'.frozen
    have FIN : Hid (_ ∧ _ ∧ _ ∧ _ ∧ _) := ⟨d8, m4'.cell, m5'.cell, hvF, hfin⟩
    have HNO : Hid (_ = _) := hno
    clear hE hpre hXb hb4 hb5 hfr hK hnE hvX h1 hfw k5' k4' m5 m4 g7 g8 hs2X d8 g9 m4' m5' hfin hvF s2 hno hbw
    gi_wp2
    refine ⟨by simp, .inl ⟨_, _, rfl, run_takeDeferred FIN.out.1, ?_⟩⟩
    refine ⟨_, results_cells rfl _ _ (w.heap.size + 1 + 1) (w.heap.size + 1 + 1 + 1) _ _ rfl rfl (loadI FIN.out.2.1) (loadB FIN.out.2.2.1), ?_⟩
    unfold getR getL
    rw [show hasV l k = none from HNO.out]
    exact ⟨rfl, v, FIN.out.2.2.2.1, FIN.out.2.2.2.2⟩
  case stop =>
    rintro c pre x post E X heq ⟨rfl, v', e, hE, hh, hv, hb4, hb5⟩ hfr hK hnE
    have h1 : Fr (fun r => r = b) (fun r => r = b ∨ r = w.heap.size + 2 ∨ r = w.heap.size + 3) w w2 := (Fr.of_below (D := fun r => r = b) H2.out.2.2.2.2.2.1 (fun r e => by omega)).names (fun _ e => e) (fun r e => ⟨by omega, by omega⟩)
    have hfw : Fr (fun r => r = b) (fun r => r = b) w X := (h1.trans hfr).names (fun _ e => e) (fun r e => ⟨.inr (.inl e), by have := hv.lt; omega⟩)
    have hs2X : w2.heap.size < X.heap.size := (Array.getElem?_eq_some_iff.1 hK).1
    have g9 : X.grownBy (X.putObj w2.heap.size (.deferred none)) (some w2.heap.size) := grownBy_putObj' _ _ _
    have m4' : Boxed (X.putObj w2.heap.size (.deferred none)) (w.heap.size + 1 + 1) 3 (.int .i64 e.2) := Boxed.kept hb4 g9 (by simp; omega)
    have m5' : Boxed (X.putObj w2.heap.size (.deferred none)) (w.heap.size + 1 + 1 + 1) 4 (.bool true) := Boxed.kept hb5 g9 (by simp; omega)
    have hfin : Fr (fun r => r = b) (fun r => r = b) w (X.putObj w2.heap.size (.deferred none)) := hfw.grown g9 (fun r e => by cases e; exact .inr (by omega))
    have hvF : LV (X.putObj w2.heap.size (.deferred none)) b s v' (ledV l k e.2) := hv.kept (g9.block b hv.lt (by simp; omega)) (fun r hr => g9.block r (hv.row.lt hr) (fun e' => hnE ((hE _).2 (.inr (by rw [hr]; exact e')))))
    have FIN : Hid (_ ∧ _ ∧ _ ∧ _ ∧ _) := ⟨hK, m4'.cell, m5'.cell, hvF, hfin⟩
    clear heq hE hv hb4 hb5 hfr hK hnE h1 hfw hs2X g9 m4' m5' hfin hvF s2 hbw
    gi_wp2
    refine ⟨by simp, .inl ⟨_, _, rfl, run_takeDeferred FIN.out.1, ?_⟩⟩
    refine ⟨_, results_cells rfl _ _ (w.heap.size + 1 + 1) (w.heap.size + 1 + 1 + 1) _ _ rfl rfl (loadI FIN.out.2.1) (loadB FIN.out.2.2.1), ?_⟩
    unfold getR getL
    rw [hh]
    exact ⟨rfl, v', FIN.out.2.2.2.1, FIN.out.2.2.2.2⟩

set_option maxRecDepth 100000 in
theorem get_any (b s : Nat) (l : List En) (k : Int) (w : World) (h : LC w b s l) :
    Calls Try.prog 11 #[.pointer (some ⟨b, 0, none⟩), .int .i64 k] w fun e w' => e = .returned (.tuple #[.int .i64 (getR l k).1, .bool (getR l k).2]) ∧ LC w' b s (getL l k) ∧ Fr (fun r => r = b) (fun r => r = b) w w' := by
  obtain ⟨v, hv⟩ := h
  have hp := rget_any b s v l k w hv
  generalize getR l k = R at *
  clear hv
  go_enter Try.func11, Try.ntmps11
  go_wp2_with fail
  go_at_call 19
  refine Calls.mono hp ?_
  clear hp
  rintro e w2 ⟨rfl, v2, h2, f2⟩
  go_wp2
  go_ret2
  exact ⟨rfl, ⟨_, h2⟩, f2⟩

end Go.Proofs.Ytamcomlnfdfmeaa.Lr
