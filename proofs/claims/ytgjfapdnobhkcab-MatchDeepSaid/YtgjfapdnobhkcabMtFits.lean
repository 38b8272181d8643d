/- package match: fits at every selector. -/
import Derived.Test.YtgjfapdnobhkcabMtFit
namespace Go.Proofs.Ytgjfapdnobhkcab.Mt
open Go Go.RowKit Go.Shelf Dm
attribute [local go_sem] Oper.semAt_some

/-- What is asked of each list. -/
def goodL : Nat → List Sel → Bool
  | 0, _ => false
  | d + 1, l => l.all (fitsV d)
theorem fitsV_eq (d : Nat) (s : Sel) : fitsV d s = (decide (s.length ≤ 50) && (listsV s).all (goodL d)) := by cases d <;> rfl
theorem results_bool {fn : Func} {p : Tmp} (h : fn.results = #[.cell p 4]) (tmps : Array Value) (W : World) (g : Nat) (v : Value) (hp : tmps.getD p undef = .pointer (some ⟨g, 0, none⟩)) (hc : W.cell? ⟨g, 0, none⟩ = some v) : (results fn tmps).run Try.prog W = .ok v W := by
  have hp' : tmps[p]?.getD undef = .pointer (some ⟨g, 0, none⟩) := by simpa using hp
  have hl : (loadVar 4 ⟨g, 0, none⟩).run Try.prog W = .ok v W := by
    simp [loadVar, isAgg, Sem.run_bind, Result.andThen, load, hc, Sem.run]
  simp [results, h, hp', asAddr, hl]
theorem all_no {α : Type} {f : α → Bool} {a b l : List α} {x : α} (h : a ++ x :: b = l) (hx : f x = false) : l.all f = false := by
  subst h
  simp [hx]

/-- What fits answers, where lists may stand so deep. -/
def FitsIn (d : Nat) : Prop := ∀ (n dd : Nat) (_ : 1 ≤ n) (s : Sel) (v : Value) (w : World), PartsAt dd w.heap.size w v s →
    CallsIn Fence.wide n Try.prog 29 #[.agg #[v], .int .i64 ((8 - d : Nat) : Int)] w fun e w' => e = .returned (.bool (fitsV d s)) ∧ Below w.heap.size w w'

set_option maxRecDepth 100000 in
set_option maxHeartbeats 8000000 in
theorem fits_step (d : Nat) (hd : d ≤ 8) (IH : ∀ d', d = d' + 1 → FitsIn d') : FitsIn d := by
  intro n dd hn s v w hP
  have HI : Hid (∀ d', d = d' + 1 → FitsIn d') := IH
  clear IH
  obtain ⟨D, hD⟩ : ∃ D : Int, D = ((8 - d : Nat) : Int) := ⟨_, rfl⟩
  have hD8 : (d = 0 → D = 8) ∧ (0 < d → D ≠ 8) ∧ 0 ≤ D ∧ D ≤ 8 := by omega
  have HD : Hid (D = ((8 - d : Nat) : Int)) := hD
  rw [← hD]
  clear hD
  obtain ⟨w3, hw3⟩ : ∃ w3, ((w.alloc (.cells #[v] 61)).alloc (.cells #[.int .i64 D] 3)).alloc (.cells #[.bool false] 4) = w3 := ⟨_, rfl⟩
  have hs3 : w3.heap.size = w.heap.size + 3 := by rw [← hw3]; simp
  have hB3 : Below w.heap.size w w3 := by rw [← hw3]; exact (((Below.refl _ w).alloc (Nat.le_refl _) _).alloc (by simp) _).alloc (by simp; omega) _
  have bS3 : Boxed w3 w.heap.size 61 v := by rw [← hw3]; exact ((Boxed.new _ _ _).alloc _).alloc _
  have bD3 : Boxed w3 (w.heap.size + 1) 3 (.int .i64 D) := by
    rw [← hw3]
    have := (Boxed.new (w.alloc (.cells #[v] 61)) 3 (.int .i64 D)).alloc (.cells #[.bool false] 4)
    rwa [World.size_alloc] at this
  have bR3 : Boxed w3 (w.heap.size + 2) 4 (.bool false) := by
    rw [← hw3]
    have := Boxed.new ((w.alloc (.cells #[v] 61)).alloc (.cells #[.int .i64 D] 3)) 4 (.bool false)
    rwa [World.size_alloc, World.size_alloc] at this
  have HP : Hid (PartsAt dd w.heap.size w v s) := hP
  obtain ⟨pv, cv, rfl⟩ := RowT.len hP
  have cS3 := bS3.cell
  have cD3 := bD3.cell
  have cR3 := bR3.cell
  have fR3 := bR3.frozen
  clear hP
  refine callsIn_of_wp_marks Try.func29 rfl trivial ?_ rfl
  simp only [Try.ntmps29, List.size_toArray, List.length_cons, List.length_nil, Nat.reduceAdd, Nat.reduceSub, Array.replicate_succ, Array.replicate_zero, List.push_toArray, List.append_toArray, List.nil_append, List.cons_append]
  by_cases hlen : s.length ≤ 50
  · have hgt : ¬ ((50 : Int) < (s.length : Int)) := by omega
    obtain ⟨w4, hw4⟩ : ∃ w4, w3.alloc (.cells #[.slice pv s.length cv] 61) = w4 := ⟨_, rfl⟩
    have hs4 : w4.heap.size = w.heap.size + 4 := by rw [← hw4]; simp [hs3]
    have bS4 : Boxed w4 (w.heap.size + 3) 61 (.slice pv s.length cv) := by
      rw [← hw4]
      have := Boxed.new w3 61 (.slice pv s.length cv)
      rwa [hs3] at this
    have bD4 : Boxed w4 (w.heap.size + 1) 3 (.int .i64 D) := by rw [← hw4]; exact bD3.alloc _
    have bR4 : Boxed w4 (w.heap.size + 2) 4 (.bool false) := by rw [← hw4]; exact bR3.alloc _
    have hB4 : Below w.heap.size w w4 := by rw [← hw4]; exact hB3.alloc (by omega) _
    have hseq := listsOf_seq (n - 1) (w.heap.size + 3) w4.heap.size dd w.heap.size s _ w HP.out w4 (by omega) (by omega) (Nat.le_refl _) hB4 bS4.cell
    have hlo := listsOf_in (n - 1) (.slice pv s.length cv) ⟨_, _, _, rfl⟩ w3
    rw [hw4, hs3] at hlo
    obtain ⟨res, hres⟩ : ∃ r, r = fitsV d s := ⟨_, rfl⟩
    have HR : Hid (res = (listsV s).all (goodL d)) := by
      show _ = _
      rw [hres, fitsV_eq, decide_eq_true hlen, Bool.true_and]
    rw [← hres]
    clear hres hw4
    gi_wp2_with fail
    refine ⟨trivial, ?_⟩
    refine hlo.mono ?_
    clear hlo
    rintro e W' ⟨rfl, rfl⟩
    clear cS3 cD3 cR3 fR3 bS3 bD3 bR3 hw3
    gi_wp2
    refine wpIn_rangeFunc_Z rfl hn (gf := 51) (lb := #[.pointer (some ⟨w.heap.size + 3, 0, none⟩)]) rfl trivial egLists hseq (Nat.le_refl _) (Below.refl _ _) (fun _ => rfl)
      (fun pre X => (pre.map Prod.snd).all (goodL d) = true ∧ Boxed X (w.heap.size + 1) 3 (.int .i64 D) ∧ Boxed X (w.heap.size + 2) 4 (.bool false) ∧ Below w.heap.size w X)
      (fun _ X => res = false ∧ Boxed X (w.heap.size + 2) 4 (.bool false) ∧ Below w.heap.size w X)
      ?hI ?hIx ⟨rfl, bD4, bR4, hB4⟩
      (fun x => { tmps := #[.agg #[.slice pv s.length cv], .int .i64 D, .pointer (some ⟨w.heap.size, 0, none⟩), .pointer (some ⟨w.heap.size + 1, 0, none⟩), .pointer (some ⟨w.heap.size + 2, 0, none⟩), x.1, undef, undef, .pointer (some ⟨w.heap.size, 0, none⟩), .slice pv s.length cv, .int .i64 s.length, .bool false, .agg #[.slice pv s.length cv], .func (.func 51) #[] #[.pointer (some ⟨w.heap.size + 3, 0, none⟩)], x.1, undef, undef, undef, undef, undef, undef, undef, undef, undef, undef, undef, undef, undef, undef], defers := [] }) ?assign ?body ?done ?stop
    case hI =>
      rintro p X Y row ⟨h1, h2, h3, h5⟩ hg hr
      have far : ∀ b, b < w.heap.size + 4 → some b ≠ row := fun b hb e => by have := hr b e.symm; omega
      exact ⟨h1, h2.kept hg (far _ (by omega)), h3.kept hg (far _ (by omega)), h5.grown hg h5.size (fun r e => by have := hr r e; omega)⟩
    case hIx =>
      rintro p X Y row ⟨h1, h3, h5⟩ hg hr
      have far : ∀ b, b < w.heap.size + 4 → some b ≠ row := fun b hb e => by have := hr b e.symm; omega
      exact ⟨h1, h3.kept hg (far _ (by omega)), h5.grown hg h5.size (fun r e => by have := hr r e; omega)⟩
    case assign =>
      intro l x X K hK
      gi_wp2
      exact hK
    case body =>
      rintro l' pre x X ⟨h1, h2, h4, h5⟩ ⟨hsel, rest, hok⟩ hsz
      have c2 := h2.cell
      have c4 := h4.cell
      have f4 := h4.frozen
      have keepN : ∀ Y, Below X.heap.size X Y → KeepsIn W'.heap.size W'.heap.size (W'.heap.size + 2 + 0) X Y := fun Y hY => ⟨hY.mono (by omega), fun r r1 r2 => hY.block r (by omega)⟩
      have KN : Hid (∀ Y, Below X.heap.size X Y → KeepsIn W'.heap.size W'.heap.size (W'.heap.size + 2 + 0) X Y) := keepN
      have STOP : Hid (∀ Y, Below X.heap.size X Y → goodL d x.2 = false → KeepsIn 0 W'.heap.size (W'.heap.size + 2 + 0) X (Y.setCell ⟨w.heap.size + 2, 0, none⟩ (.bool false)) ∧ res = false ∧ Boxed (Y.setCell ⟨w.heap.size + 2, 0, none⟩ (.bool false)) (w.heap.size + 2) 4 (.bool false) ∧ Below w.heap.size w (Y.setCell ⟨w.heap.size + 2, 0, none⟩ (.bool false))) := by
        intro Y hY hg
        have g2 := grownBy_setCell' Y (w.heap.size + 2) (.bool false)
        have hs1 := hY.size
        have h5s := h5.size
        have b4 : Boxed Y (w.heap.size + 2) 4 (.bool false) := h4.kept (grown_of_below hY none) (by simp)
        have hBY : Below w.heap.size w Y := below_next h5 hY
        refine ⟨⟨((hY.mono (Nat.zero_le _)).trans ((Below.refl 0 Y).grown g2 (Nat.zero_le _) (fun r e => Nat.zero_le _))), fun r r1 r2 => ?_⟩, ?_, b4.set _, hBY.grown g2 hBY.size (fun r e => by cases e; omega)⟩
        · exact (g2.block r (by omega) (by simp; omega)).trans (hY.block r (by omega))
        · rw [show res = _ from HR.out]
          exact all_no hok hg
      have NEXT : Hid (∀ Y, Below X.heap.size X Y → goodL d x.2 = true → KeepsIn W'.heap.size W'.heap.size (W'.heap.size + 2 + 0) X Y ∧ ((pre ++ [x]).map Prod.snd).all (goodL d) = true ∧ Boxed Y (w.heap.size + 1) 3 (.int .i64 D) ∧ Boxed Y (w.heap.size + 2) 4 (.bool false) ∧ Below w.heap.size w Y) := by
        intro Y hY hg
        refine ⟨keepN Y hY, ?_, h2.kept (grown_of_below hY none) (by simp), h4.kept (grown_of_below hY none) (by simp), below_next h5 hY⟩
        rw [List.map_append, List.all_append, h1]
        simp [hg]
      have HS : Hid (SelsAt dd w.heap.size X x.1 x.2) := SelsAt.below dd hsel h5
      obtain ⟨px, cx, hxv⟩ := SelsAt.len hsel
      have hxs := SelsAt.short hsel
      unfold maxLen at hxs
      rw [hxv]
      clear hseq hok hsel keepN h1
      cases d with
      | zero =>
        have hD0 := hD8.1 rfl
        have FIN := STOP.out X (Below.refl _ _) rfl
        have HF : Hid _ := FIN
        rw [hD0] at c2
        clear FIN hD8 STOP NEXT
        gi_wp2
        exact HF.out
      | succ d =>
        have hne : (D == 8) = false := by have := hD8.2.1 (by omega); simpa using this
        have hw1 : IntKind.i64.wrap (D + 1) = D + 1 := by rw [IntKind.wrap_i64]; omega
        have HD1 : Hid (D + 1 = ((8 - d : Nat) : Int)) := by have := HD.out; show _ = _; omega
        gi_wp2
        gi_loopw [19] (fun y wr => ∃ i : Nat, y = .int .i64 i ∧ i ≤ x.2.length ∧ (x.2.take i).all (fitsV d) = true ∧ Below X.heap.size X wr) (fun y _ => x.2.length - (intOf y).toNat)
        case atStart => exact ⟨0, rfl, Nat.zero_le _, rfl, Below.refl _ _⟩
        case round =>
          clear c2 c4 f4
          obtain ⟨i, rfl, hi, hall, hb⟩ := hrel
          by_cases hlt : i < x.2.length
          · obtain ⟨y, hy⟩ : ∃ y, x.2[i]? = some y := ⟨_, List.getElem?_eq_getElem hlt⟩
            obtain ⟨px', rfl⟩ : ∃ p', p' = px := ⟨_, rfl⟩
            have hS2 := HS.out
            rw [hxv] at hS2
            obtain ⟨d', _, bk, off, xv, rfl, hbk, hcap, hmx, hPy, y0⟩ := SelsAt.get hS2 hy
            unfold maxLen at hmx
            have h5s := h5.size
            have hbs := hb.size
            have y1 := (hb.cell (p := ⟨bk, off + i, none⟩) (by simp; omega)).trans y0
            have c2 := (h2.kept (grown_of_below hb none) (by simp)).cell
            have c4 := (h4.kept (grown_of_below hb none) (by simp)).cell
            have f4 := (h4.kept (grown_of_below hb none) (by simp)).frozen
            obtain ⟨pq, cq, rfl⟩ := RowT.len hPy
            have hii : (i : Int) < (x.2.length : Int) := by omega
            obtain ⟨Y, hY⟩ : ∃ Y, wr.alloc (.cells #[.slice pq y.length cq] 61) = Y := ⟨_, rfl⟩
            have kY : Boxed Y wr.heap.size 61 (.slice pq y.length cq) := by rw [← hY]; exact Boxed.new _ _ _
            have bY : Below X.heap.size X Y := by rw [← hY]; exact hb.alloc (by omega) _
            have cY := kY.cell
            have c2Y : Y.cell? ⟨w.heap.size + 1, 0, none⟩ = some (.int .i64 D) := (h2.kept (grown_of_below bY none) (by simp)).cell
            have hf := HI.out d rfl 1 d' (Nat.le_refl _) y _ Y ((hPy.below (bY.mono h5s)).mono (Nat.le_trans h5s bY.size))
            have hDD := HD1.out
            rw [← show D + 1 = _ from hDD] at hf
            have HALL : Hid ((x.2.take i).all (fitsV d) = true) := hall
            have HYY : Hid (x.2[i]? = some y) := hy
            clear hS2 hPy y0 hDD hall hy hb
            gi_wp2_with fail
            refine ⟨trivial, fun h => (by cases h), ?_⟩
            refine (CallsIn.inRound l' (callsIn_wide.2 (callsIn_wide.1 hf))).mono ?_
            clear hf
            rintro e Z ⟨rfl, bz⟩
            have bZ : Below X.heap.size X Z := below_next bY bz
            have f4Z := (h4.kept (grown_of_below bZ none) (by simp)).frozen
            have c4Z := (h4.kept (grown_of_below bZ none) (by simp)).cell
            clear c2 c4 f4 y1 cY c2Y kY hY bY bz
            cases hv : fitsV d y with
            | true =>
              have HE : Hid ((x.2.take (i + 1)).all (fitsV d) = true) := by
                show _ = _
                rw [List.take_add_one, show x.2[i]? = some y from HYY.out, List.all_append, show (x.2.take i).all (fitsV d) = true from HALL.out]
                simp [hv]
              clear hv HALL HYY
              gi_wp2
              go_roundw
              case rel => exact ⟨i + 1, rfl, by omega, HE.out, bZ⟩
              case measure => simp [intOf]; omega
            | false =>
              have HF : Hid _ := STOP.out Z bZ (by
                show x.2.all (fitsV d) = false
                rw [List.all_eq_false]
                exact ⟨y, List.mem_of_getElem? HYY.out, by simp [hv]⟩)
              clear hv HALL HYY STOP NEXT
              gi_wp2
              exact HF.out
          · obtain rfl : i = x.2.length := by omega
            rw [List.take_length] at hall
            have HF : Hid _ := NEXT.out wr hb hall
            clear hall STOP NEXT
            gi_wp2
            exact HF.out
    case done =>
      rintro ys X hys ⟨h1, h2, h4, h5⟩ hK
      have hTl : res = true := by rw [show res = _ from HR.out, ← hys]; exact h1
      have c4 := h4.cell
      have f4 := h4.frozen
      have g2 := grownBy_setCell' X (w.heap.size + 2) (.bool true)
      have hK2 := (g2.block W'.heap.size (Array.getElem?_eq_some_iff.1 hK).1 (by simp; omega)).trans hK
      have b4 := h4.set (.bool true)
      have hb4 := h5.grown g2 h5.size (fun r e => by cases e; omega)
      clear hseq
      gi_wp2
      refine ⟨by simp, .inl ⟨_, _, rfl, run_takeDeferred hK2, ?_⟩⟩
      have g3 := grownBy_putObj' (X.setCell ⟨w.heap.size + 2, 0, none⟩ (.bool true)) W'.heap.size (.deferred none)
      have b5 := b4.kept g3 (by simp; omega)
      refine ⟨_, results_bool rfl _ _ (w.heap.size + 2) _ rfl b5.cell, by rw [hTl], hb4.grown g3 (by have := hb4.size; omega) (fun r e => by cases e; omega)⟩
    case stop =>
      rintro pre X _ ⟨hTl, h4, h5⟩ hK
      clear hseq
      gi_wp2
      refine ⟨by simp, .inl ⟨_, _, rfl, run_takeDeferred hK, ?_⟩⟩
      have g3 := grownBy_putObj' X W'.heap.size (.deferred none)
      have b5 := h4.kept g3 (by simp; omega)
      exact ⟨_, results_bool rfl _ _ (w.heap.size + 2) _ rfl b5.cell, by rw [hTl], h5.grown g3 h5.size (fun r e => by cases e; omega)⟩
  · have hgt : ((50 : Int) < (s.length : Int)) := by omega
    rw [fitsV_eq, decide_eq_false hlen, Bool.false_and]
    have hb4 := hB3.grown (grownBy_setCell' w3 (w.heap.size + 2) (.bool false)) hB3.size (fun r e => by cases e; omega)
    have b4 := bR3.set (.bool false)
    gi_wp2
    exact ⟨_, results_bool rfl _ _ (w.heap.size + 2) _ rfl b4.cell, rfl, hb4⟩
theorem fits_all : ∀ d, d ≤ 8 → FitsIn d
  | 0, h => fits_step 0 h (fun _ e => by cases e)
  | d + 1, h => fits_step (d + 1) h (fun d' e => by cases e; exact fits_all d (by omega))
theorem fits_any (d : Nat) (s : Sel) (v : Value) (w : World) (hP : PartsAt d w.heap.size w v s) :
    Calls Try.prog 29 #[.agg #[v], .int .i64 0] w fun e w' => e = .returned (.bool (fitsV 8 s)) ∧ Below w.heap.size w w' :=
  callsIn_wide.1 (fits_all 8 (Nat.le_refl _) 1 d (Nat.le_refl _) s v w hP)

end Go.Proofs.Ytgjfapdnobhkcab.Mt
