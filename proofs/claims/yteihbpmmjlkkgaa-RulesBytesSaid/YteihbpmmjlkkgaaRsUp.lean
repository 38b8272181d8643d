/- rules.upTo at every place of a slice of tokens that is not too long. -/
import Derived.Test.YteihbpmmjlkkgaaRsThg
namespace Go.Proofs.Yteihbpmmjlkkgaa
open Go Go.RowKit Go.Shelf
attribute [local go_sem] Oper.semAt_some

theorem below_drew {n₀ : Nat} {a b : World} (h : Below n₀ a b) : Below n₀ a b.drew := ⟨h.os, h.tape, h.output, h.size, h.block⟩
theorem grown_drew1 {a b : World} {row : Option Nat} (h : a.grownBy b row) : a.grownBy b.drew row := ⟨h.os, h.tape, h.output, h.size, h.block⟩
/-- An int as a result, out of its cell. -/
theorem results_cell_int {fn : Func} {p : Tmp} (h : fn.results = #[.cell p 3]) (tmps : Array Value) (W : World) (g : Nat) (v : Value) (hp : tmps.getD p undef = .pointer (some ⟨g, 0, none⟩)) (hc : W.cell? ⟨g, 0, none⟩ = some v) : (results fn tmps).run Try.prog W = .ok v W := by
  have hp' : tmps[p]?.getD undef = .pointer (some ⟨g, 0, none⟩) := by simpa using hp
  have hl : (loadVar 3 ⟨g, 0, none⟩).run Try.prog W = .ok v W := by
    simp [loadVar, isAgg, Sem.run_bind, Result.andThen, load, hc, Sem.run]
  simp [results, h, hp', asAddr, hl]
theorem egThg : ∀ args w, (callFunc 42 args).run Try.prog w = .ok (.enter 42 args) w := enters_of Try.func42 (by kernel_rfl) rfl
theorem find_none {p : Nat → Bool} {l : List Nat} (h : ∀ x ∈ l, p x = false) : l.find? p = none := by
  rw [List.find?_eq_none]
  intro x hx e
  rw [h x hx] at e
  cases e
theorem find_here {p : Nat → Bool} : ∀ {a : List Nat} {x : Nat} {b : List Nat}, (∀ y ∈ a, p y = false) → p x = true → (a ++ x :: b).find? p = some x
  | [], x, b, _, hx => by rw [List.nil_append, List.find?_cons, hx]
  | y :: a, x, b, h, hx => by
    rw [List.cons_append, List.find?_cons, h y (List.mem_cons_self ..)]
    exact find_here (fun z hz => h z (List.mem_cons_of_mem _ hz)) hx
theorem starts_mem {ks : List Int} : ∀ (n i : Nat), ks.length - i ≤ n → ∀ x ∈ starts ks i, x < ks.length
  | 0, i, hn => by
    rw [starts_out (by omega)]
    simp
  | n + 1, i, hn => by
    by_cases h : i < ks.length
    · have hp := run_drop_pos h
      rw [starts_in h]
      intro x hx
      rcases List.mem_cons.1 hx with rfl | hx
      · exact h
      · exact starts_mem n _ (by omega) x hx
    · rw [starts_out (by omega)]
      simp

set_option maxRecDepth 100000 in
set_option maxHeartbeats 4000000 in
theorem upTo_all (n : Nat) (hn : 1 ≤ n) (v kv : Value) (ts : List Bt) (l : List Int) (i : Nat) (w : World) (hv : BtsAt w.heap.size w v ts) (hk : IntsAt w.heap.size w kv l) (hi : i ≤ ts.length) (hl : ts.length ≤ 1000000) (hll : l.length ≤ 1000000) :
    CallsIn Fence.wide n Try.prog 15 #[v, .int .i64 i, kv] w fun e w' => e = .returned (.int .i64 ((i + upto (fun x => l.contains x) ((kds ts).drop i) : Nat) : Int)) ∧ Below w.heap.size w w' := by
  have hU := upto_starts (fun x => l.contains x) (kds ts) (kds ts).length i (by omega) (by rw [kds_length]; omega)
  obtain ⟨T, hT⟩ : ∃ T : Nat, i + upto (fun x => l.contains x) ((kds ts).drop i) = T := ⟨_, rfl⟩
  rw [hT] at hU ⊢
  clear hT
  obtain ⟨p, cap, rfl⟩ := hv.len
  obtain ⟨pk, ck, rfl⟩ := hk.len
  refine callsIn_of_wp_marks Try.func15 rfl trivial ?_ rfl
  simp only [Try.ntmps15, List.size_toArray, List.length_cons, List.length_nil, Nat.reduceAdd, Nat.reduceSub, Array.replicate_succ, Array.replicate_zero, List.push_toArray, List.append_toArray, List.nil_append, List.cons_append]
  obtain ⟨w3, hw3⟩ : ∃ w3, ((w.alloc (.cells #[.slice p ts.length cap] 22)).alloc (.cells #[.slice pk l.length ck] 33)).alloc (.cells #[.int .i64 0] 3) = w3 := ⟨_, rfl⟩
  have hs3 : w3.heap.size = w.heap.size + 3 := by rw [← hw3]; simp
  have hB3 : Below w.heap.size w w3 := by rw [← hw3]; exact (((Below.refl _ w).alloc (Nat.le_refl _) _).alloc (by simp) _).alloc (by simp; omega) _
  have bT3 : Boxed w3 w.heap.size 22 (.slice p ts.length cap) := by rw [← hw3]; exact ((Boxed.new _ _ _).alloc _).alloc _
  have bK3 : Boxed w3 (w.heap.size + 1) 33 (.slice pk l.length ck) := by
    rw [← hw3]
    have := (Boxed.new (w.alloc (.cells #[.slice p ts.length cap] 22)) 33 (.slice pk l.length ck)).alloc (.cells #[.int .i64 0] 3)
    rwa [World.size_alloc] at this
  have bR3 : Boxed w3 (w.heap.size + 2) 3 (.int .i64 0) := by
    rw [← hw3]
    have := Boxed.new ((w.alloc (.cells #[.slice p ts.length cap] 22)).alloc (.cells #[.slice pk l.length ck] 33)) 3 (.int .i64 0)
    rwa [World.size_alloc, World.size_alloc] at this
  have cT3 := bT3.cell
  gi_wp2_with fail
  refine ⟨trivial, ?_⟩
  clear hw3 cT3
  have hth := fun m => things_in m (.slice p ts.length cap) i w3 rfl
  rw [hs3] at hth
  refine (hth _).mono ?_
  clear hth
  rintro e w4 ⟨rfl, hw5⟩
  obtain ⟨w5, rfl⟩ : ∃ w5, w5 = w4 := ⟨_, rfl⟩
  have hs5 : w5.heap.size = w.heap.size + 5 := by rw [hw5]; simp; omega
  have hB5 : Below w3.heap.size w3 w5 := by rw [hw5]; exact ((Below.refl _ w3).alloc (Nat.le_refl _) _).alloc (by simp) _
  have bT5 := bT3.kept (grown_of_below' hB5 none) (by simp)
  have bK5 := bK3.kept (grown_of_below' hB5 none) (by simp)
  have bR5 := bR3.kept (grown_of_below' hB5 none) (by simp)
  have bV5 : Boxed w5 (w.heap.size + 3) 22 (.slice p ts.length cap) := by
    rw [hw5]
    have := (Boxed.new w3 22 (.slice p ts.length cap)).alloc (.cells #[.int .i64 i] 3)
    rwa [hs3] at this
  have bI5 : Boxed w5 (w.heap.size + 4) 3 (.int .i64 i) := by
    rw [hw5]
    have := Boxed.new (w3.alloc (.cells #[.slice p ts.length cap] 22)) 3 (.int .i64 i)
    rwa [World.size_alloc, hs3] at this
  have hBB : Below w.heap.size w w5 := hB3.trans (hB5.mono hB3.size)
  clear hw5 hB5 bT3 bK3 bR3 hB3 hs3 w3
  have hseq := things_seq (n - 1) (w.heap.size + 4) (w.heap.size + 3) (w.heap.size + 5) (.slice p ts.length cap) ts i w5 (by omega) (by omega) (by omega) bI5.cell bV5.cell ((hv.below hBB).mono (by omega)) hi hl
  gi_wp2_with fail
  have hmem := starts_mem (ks := kds ts) _ i (Nat.le_refl _)
  rw [kds_length] at hmem hU
  refine wpIn_rangeFunc_Z rfl hn (gf := 42) (lb := #[.pointer (some ⟨w.heap.size + 4, 0, none⟩), .pointer (some ⟨w.heap.size + 3, 0, none⟩)]) rfl trivial egThg hseq (by omega) (Below.refl _ _) (fun _ => rfl)
    (fun pre X => (∀ x ∈ pre, l.contains (kd (kds ts) x) = false) ∧ Boxed X w.heap.size 22 (.slice p ts.length cap) ∧ Boxed X (w.heap.size + 1) 33 (.slice pk l.length ck) ∧ Boxed X (w.heap.size + 2) 3 (.int .i64 0) ∧ Below w.heap.size w X)
    (fun _ X => Boxed X (w.heap.size + 2) 3 (.int .i64 T) ∧ Below w.heap.size w X)
    ?hI ?hIx ⟨fun _ h => (by cases h), bT5, bK5, bR5, hBB⟩
    (fun x => { tmps := #[.slice p ts.length cap, .int .i64 i, .slice pk l.length ck, .pointer (some ⟨w.heap.size, 0, none⟩), undef, .pointer (some ⟨w.heap.size + 1, 0, none⟩), .pointer (some ⟨w.heap.size + 2, 0, none⟩), .int .i64 x, .slice p ts.length cap, .int .i64 i, .func (.func 42) #[] #[.pointer (some ⟨w.heap.size + 4, 0, none⟩), .pointer (some ⟨w.heap.size + 3, 0, none⟩)], .int .i64 x, undef, undef, undef, undef, undef, undef, undef, undef, undef, undef], defers := [] }) ?assign ?body ?done ?stop
  case hI =>
    rintro s X Y row ⟨h1, h2, h3, h4, h5⟩ hg hr
    have far : ∀ b, b < w.heap.size + 5 → some b ≠ row := fun b hb e => by have := hr b e.symm; omega
    exact ⟨h1, h2.kept hg (far _ (by omega)), h3.kept hg (far _ (by omega)), h4.kept hg (far _ (by omega)), h5.grown hg h5.size (fun r e => by have := hr r e; omega)⟩
  case hIx =>
    rintro s X Y row ⟨h4, h5⟩ hg hr
    have far : ∀ b, b < w.heap.size + 5 → some b ≠ row := fun b hb e => by have := hr b e.symm; omega
    exact ⟨h4.kept hg (far _ (by omega)), h5.grown hg h5.size (fun r e => by have := hr r e; omega)⟩
  case assign =>
    intro l x X K hK
    gi_wp2
    exact hK
  case body =>
    rintro l' pre x X ⟨h1, h2, h3, h4, h5⟩ ⟨rest, hok⟩ hsz
    have hxm : x < ts.length := hmem x (by rw [← hok]; simp)
    have hxi : (x : Int) < (ts.length : Int) := by omega
    have c2 := h2.cell
    have c3 := h3.cell
    have c4 := h4.cell
    have f4 := h4.frozen
    obtain ⟨bk, off, rfl, hbk, _, _, hc, _⟩ := (hv.below h5).get (List.getElem?_eq_getElem hxm)
    have hkd : kd (kds ts) x = ts[x].kind := by simp [kd, kds, hxm]
    have hcon := fun W (hb : Below w.heap.size w W) => contains_any (.slice pk l.length ck) l ts[x].kind W ((hk.below hb).mono hb.size) hll
    rw [← hkd] at hcon hc
    clear hkd
    have hfo := follows
    cases hB : l.contains (kd (kds ts) x) with
    | true =>
      have hTx : T = x := by rw [hU, ← hok, find_here (fun y hy => h1 y hy) hB]; rfl
      rw [hB] at hcon
      generalize kd (kds ts) x = kx at *
      have FIN : Hid (∀ Z, (X.setCell ⟨w.heap.size + 2, 0, none⟩ (.int .i64 x)).grownBy Z none → KeepsIn 0 w5.heap.size (w5.heap.size + 2 + 0) X Z ∧ Boxed Z (w.heap.size + 2) 3 (.int .i64 T) ∧ Below w.heap.size w Z) := fun Z g => by
        have g2 := grownBy_setCell' X (w.heap.size + 2) (.int .i64 x)
        have hs1 := h5.size
        have hs2 := g2.size
        have b1 := (Below.refl 0 X).grown g2 (Nat.zero_le _) (fun r e => Nat.zero_le _)
        refine ⟨⟨b1.grown g (Nat.zero_le _) (fun r e => Nat.zero_le _), fun r r1 r2 => ?_⟩, ?_, ?_⟩
        · rw [g.block r (by omega) (by simp)]
          exact g2.block r (by omega) (by simp; omega)
        · rw [hTx]
          exact (h4.set _).kept g (by simp)
        · exact (h5.grown g2 h5.size (fun r e => by cases e; omega)).grown g (by omega) (fun r e => by cases e)
      clear hseq hU hTx hok
      gi_wp2_with fail
      gi_region_with_o (refine ⟨trivial, fun h => (by cases h), ?_⟩; gi_at_call 33; refine (CallsIn.inRound l' (callsIn_wide.2 (hcon _ (by repeat (first | exact h5 | apply below_drew))))).mono ?_; rintro e w' ⟨rfl, rfl⟩)
      all_goals gi_wp2
      all_goals refine (show _ from FIN) _ ?_
      all_goals repeat (first | exact World.grownBy.refl _ _ | apply grown_drew1)
    | false =>
      rw [hB] at hcon
      have FIN : Hid (∀ Y, X.grownBy Y none → KeepsIn (w.heap.size + 5) w5.heap.size (w5.heap.size + 2 + 0) X Y ∧ (∀ y ∈ pre ++ [x], l.contains (kd (kds ts) y) = false) ∧ Boxed Y w.heap.size 22 (.slice (some ⟨bk, off, none⟩) ts.length cap) ∧ Boxed Y (w.heap.size + 1) 33 (.slice pk l.length ck) ∧ Boxed Y (w.heap.size + 2) 3 (.int .i64 0) ∧ Below w.heap.size w Y) := fun Y g => by
        refine ⟨KeepsIn.of_grownBy g (by omega) (by omega) (fun r e => by cases e), fun y hy => ?_, h2.kept g (by simp), h3.kept g (by simp), h4.kept g (by simp), h5.grown g h5.size (fun r e => by cases e)⟩
        rcases List.mem_append.1 hy with hy | hy
        · exact h1 y hy
        · obtain rfl : y = x := by simpa using hy
          exact hB
      clear hB
      generalize kd (kds ts) x = kx at hc hcon
      clear hseq hU hok
      gi_wp2_with fail
      gi_region_with_o (refine ⟨trivial, fun h => (by cases h), ?_⟩; gi_at_call 33; refine (CallsIn.inRound l' (callsIn_wide.2 (hcon _ (by repeat (first | exact h5 | apply below_drew))))).mono ?_; rintro e w' ⟨rfl, rfl⟩)
      all_goals gi_wp2
      all_goals refine (show _ from FIN) _ ?_
      all_goals repeat (first | exact World.grownBy.refl _ _ | apply grown_drew1)
  case done =>
    rintro ys X rfl ⟨h1, h2, h3, h4, h5⟩ hK
    have hTl : T = ts.length := by rw [hU, find_none (fun y hy => h1 y hy)]; rfl
    have c2 := h2.cell
    have c4 := h4.cell
    have f4 := h4.frozen
    have g2 := grownBy_setCell' X (w.heap.size + 2) (.int .i64 (ts.length : Int))
    have hK2 := (g2.block w5.heap.size (Array.getElem?_eq_some_iff.1 hK).1 (by simp; omega)).trans hK
    have b4 := h4.set (.int .i64 (ts.length : Int))
    have hb4 := h5.grown g2 h5.size (fun r e => by cases e; omega)
    clear hseq hU hmem
    gi_wp2
    refine ⟨by simp, .inl ⟨_, _, rfl, run_takeDeferred hK2, ?_⟩⟩
    have g3 := grownBy_putObj' (X.setCell ⟨w.heap.size + 2, 0, none⟩ (.int .i64 (ts.length : Int))) w5.heap.size (.deferred none)
    have b5 := b4.kept g3 (by simp; omega)
    refine ⟨_, results_cell_int rfl _ _ (w.heap.size + 2) _ rfl b5.cell, by rw [hTl], hb4.grown g3 (by have := hb4.size; omega) (fun r e => by cases e; omega)⟩
  case stop =>
    rintro pre X _ ⟨h4, h5⟩ hK
    clear hseq hU
    gi_wp2
    refine ⟨by simp, .inl ⟨_, _, rfl, run_takeDeferred hK, ?_⟩⟩
    have g3 := grownBy_putObj' X w5.heap.size (.deferred none)
    have b5 := h4.kept g3 (by simp; omega)
    exact ⟨_, results_cell_int rfl _ _ (w.heap.size + 2) _ rfl b5.cell, rfl, h5.grown g3 h5.size (fun r e => by cases e; omega)⟩

end Go.Proofs.Yteihbpmmjlkkgaa
