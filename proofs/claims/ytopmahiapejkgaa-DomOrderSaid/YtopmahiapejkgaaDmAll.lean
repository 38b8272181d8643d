/- slices.AppendSeq over an iterator of numbers, where there is room; package dom: All at every tree. -/
import Derived.Test.YtopmahiapejkgaaDmOrd
import Derived.Test.YtopmahiapejkgaaRgn
import Derived.OwnWalkIn
import Derived.TacticsInMore
import Derived.LoopNIn
import Derived.WalkKit
namespace Go.Proofs.Ytopmahiapejkgaa.Dm
open Go Go.RowKit Go.Shelf
attribute [local go_sem] Oper.semAt_some

set_option maxRecDepth 100000 in
set_option maxHeartbeats 2000000 in
theorem appendSeq_any (n₀ room k gf r : Nat) (lb : Array Value) (xs : List Nat) (w : World) (C : World → Prop) (hC : ∀ X Y row, C X → X.grownBy Y row → (∀ z, row = some z → z = r ∨ w.heap.size ≤ z) → C Y) (hCw : C w) (hn₀ : n₀ ≤ r) (hr : w.ownsRow r 3 1 (.slice (some ⟨r, 0, none⟩) 0 room) 0 []) (hx : xs.length ≤ room) (eg : ∀ args w, (callFunc gf args).run Try.prog w = .ok (.enter gf args) w)
    (hseq : SeqB Fence.wide 1 Try.prog gf lb (fun x : Nat => #[.int .i64 x]) n₀ (fun ys => ys = xs) xs.length k C w) :
    Calls Try.prog 27 #[.slice (some ⟨r, 0, none⟩) 0 room, .func (.func gf) #[] lb] w fun e w' => ∃ v, e = .returned v ∧ w'.ownsRow r 3 1 v xs.length (xs.map (fun x : Nat => Value.int .i64 x)) ∧ Below r w w' := by
  obtain ⟨i0, hi, hz0, hz1, hz2⟩ := info_parts infoInt
  have hrl := (hr.lt _ rfl).2
  refine (callsIn_wide (n := 2)).1 ?_
  refine callsIn_of_wp_marks Try.func27 rfl trivial ?_ rfl
  simp only [Try.ntmps27, List.size_toArray, List.length_cons, List.length_nil, Nat.reduceAdd, Nat.reduceSub, Array.replicate_succ, Array.replicate_zero, List.push_toArray, List.append_toArray, List.nil_append, List.cons_append]
  have bO := Boxed.new w 37 (.slice (some ⟨r, 0, none⟩) 0 room)
  have hr0 := hr.alloc (.cells #[.slice (some ⟨r, 0, none⟩) 0 room] 37)
  have hB0 : Below w.heap.size w (w.alloc (.cells #[.slice (some ⟨r, 0, none⟩) 0 room] 37)) := (Below.refl _ w).alloc (Nat.le_refl _) _
  have hCw2 : C (w.alloc (.cells #[.slice (some ⟨r, 0, none⟩) 0 room] 37)) := hC _ _ none hCw (World.grownBy_alloc _ _ _) (fun _ e => by cases e)
  have hs0 : (w.alloc (.cells #[.slice (some ⟨r, 0, none⟩) 0 room] 37)).heap.size = w.heap.size + 1 := by simp
  gi_wp2_with fail
  generalize w.alloc (.cells #[.slice (some ⟨r, 0, none⟩) 0 room] 37) = w2 at *
  refine wpIn_rangeFunc_B rfl (by omega) (gf := gf) (lb := lb) rfl trivial eg (hseq.later hB0) (by omega) (Below.refl _ _) (fun _ => rfl)
    (fun pre X => Boxed X w.heap.size 37 (.slice (some ⟨r, 0, none⟩) pre.length room) ∧ X.ownsRow r 3 1 (.slice (some ⟨r, 0, none⟩) pre.length room) pre.length (pre.map (fun x : Nat => Value.int .i64 x)) ∧ Below r w X ∧ w.heap.size ≤ X.heap.size ∧ C X)
    ?hI ⟨bO, hr0, hB0.mono (by omega), by omega, hCw2⟩ (fun _ _ h => h.2.2.2.2)
    (fun x => { tmps := #[.slice (some ⟨r, 0, none⟩) 0 room, .func (.func gf) #[] lb, .pointer (some ⟨w.heap.size, 0, none⟩), undef, .slice none 0 0, .int .i64 x, .func (.func gf) #[] lb, .int .i64 x, undef, undef, undef, undef, undef], defers := [] }) ?assign ?body ?done
  case hI =>
    rintro s X Y row ⟨h1, h2, h3, h4, h5⟩ hg hr
    refine ⟨h1.kept hg (fun e => by have := hr _ e.symm; omega), h2.kept hg (.inr (fun e => by have := hr _ e.symm; simp at this; omega)), h3.grown hg (by omega) (fun r e => by have := hr r e; omega), Nat.le_trans h4 hg.size, hC _ _ _ h5 hg (fun z e => .inr (by have := hr z e; omega))⟩
  case assign =>
    intro l x X K hK
    gi_wp2
    exact hK
  case body =>
    rintro l' pre x X ⟨hb1, hr1, hB, hsX, hCX⟩ hlt hsz
    have hcb := hb1.cell
    gi_wp2_with (gi_at_builtin; refine wpListIn_append_fits _ rfl _ _ 37 rfl r 3 i0 1 Try.underlying37 hi hz1 r pre.length room _ rfl (hr1.alloc _) ⟨X.heap.size, 0, none⟩ 1 1 [.int .i64 x] rfl rfl (cell_one_new _ _ _) (by simp [Value.oneCell']) (by omega) ?_; intro w3 hown3 hgrow3; obtain ⟨hv1, hv2, hr2, hk2, hb2⟩ := hb1.appended (by decide) hr1 (by omega) (by omega) hown3 hgrow3; have hc3 := hv1.cell; have hf3 := hv1.frozen)
    have hl : (pre ++ [x]).length = pre.length + 1 := by simp
    have hm : (pre ++ [x]).map (fun x : Nat => Value.int .i64 x) = pre.map (fun x : Nat => Value.int .i64 x) ++ [.int .i64 x] := by simp
    refine ⟨⟨hb2.mono hn₀, fun r' h1 h2 => ?_⟩, by rw [hl]; exact hv2, by rw [hl, hm]; exact hr2, hB.trans hb2, Nat.le_trans hsX hb2.size, hC _ _ (some w.heap.size) (hC _ _ (some r) (hC _ _ none hCX (World.grownBy_alloc _ _ _) (fun _ e => by cases e)) hgrow3 (fun z e => .inl (by cases e; rfl))) (grownBy_setCell' _ _ _) (fun z e => .inr (by cases e; exact Nat.le_refl _))⟩
    have e1 := (grownBy_setCell' w3 w.heap.size (.slice (some ⟨r, 0, none⟩) (pre.length + 1) room)).block r' (Nat.lt_of_lt_of_le (by simp; omega) hgrow3.size) (by simp; omega)
    have e2 := hgrow3.block r' (by simp; omega) (by simp; omega)
    exact e1.trans (e2.trans (Below.heap_alloc _ _ _ (by omega)))
  case done =>
    rintro ys X rfl ⟨hb1, hr1, hB, hsX, hCX⟩ hK
    have hcb := hb1.cell
    gi_wp2
    refine ⟨by simp, .inl ⟨_, _, rfl, run_takeDeferred hK, ?_⟩⟩
    exact ⟨_, results_tmp rfl _ _ _, _, rfl, ownsRow_putObj hr1 _ hK rfl, hB.trans (belowK_b (w := w) (by omega) X w2.heap.size _ _ (by omega) hK rfl rfl)⟩

/-- make([]T, 0, n) as one step of a region that draws. -/
theorem step_make_own {P : Program} {ops : Array Oper} {Q : Exit → Act → World → Prop} {o : Oper} {a : Act} {w : World} {K : Act → World → Prop} {E : Prop} (hgd : o.guard = none) (l c : Operand) (t : TypeId) (hop : o.op = Op.makeSlice t l c)
    (base : Nat) (e : TypeId) (i : TypeInfo) (z : Value) (size : Nat) (h1 : P.underlying t = some (.slice e)) (h2 : P.info? e = some i) (h3 : i.zero = some z) (h4 : i.size = size)
    (kl kc : IntKind) (n : Nat) (hl : a.eval l = .int kl 0) (hc : a.eval c = .int kc (n : Int)) (b2 : i.bytes * n ≤ 281474976710656) (b3 : n ≤ maxLen) (b4 : base ≤ w.heap.size)
    (hK : ∀ w', w'.ownsRow base e size (.slice (some ⟨w.heap.size, 0, none⟩) 0 n) 0 [] → w.grownBy w' none → K (a.put o.dst (.slice (some ⟨w.heap.size, 0, none⟩) 0 n)) w') :
    if Region.wanted o (yielded ops a.tmps) = true then Oper.wp P o a w K Q else E := by
  have hw : Region.wanted o (yielded ops a.tmps) = true := by simp [Region.wanted, hgd]
  rw [if_pos hw]
  obtain ⟨w', hrun, r1, r2⟩ := run_make_own (P := P) w base t e i z size h1 h2 h3 h4 kl kc n b2 b3 b4
  unfold Oper.wp
  simp [execOp, hop, hl, hc, hrun, Result.andThen]
  exact hK w' r1 r2

theorem chI_map (l : List Nat) : (chI l).map (Value.int .i64) = l.map (fun x : Nat => Value.int .i64 x) := by simp [chI]

set_option maxRecDepth 100000 in
set_option maxHeartbeats 2000000 in
/-- All AT EVERY TREE. -/
theorem all_any (b tb g cap : Nat) (qs : List Em) (w : World) (hT : Tr b w tb g cap qs) (hO : TreeOk (qs.map Em.e)) (hl : qs.length ≤ 4096) :
    Calls Try.prog 10 #[.pointer (some ⟨tb, 0, none⟩)] w fun x w' => ∃ v', x = .returned v' ∧ IntRow w.heap.size w' v' (chI (allV (qs.map Em.e))) ∧ Below w.heap.size w w' := by
  obtain ⟨i0, hi, hz0, hz1, hz2⟩ := info_parts infoInt
  have hlen := len_any b tb g cap qs w.drew (hT.drewN 1)
  have HAP : Hid (∀ (X : World) (r Bt : Nat), w.heap.size ≤ r → Bt ≠ r → X.ownsRow r 3 1 (.slice (some ⟨r, 0, none⟩) 0 qs.length) 0 [] → X.cell? ⟨Bt, 0, none⟩ = some (.pointer (some ⟨tb, 0, none⟩)) → Below w.heap.size w X →
      Calls Try.prog 27 #[.slice (some ⟨r, 0, none⟩) 0 qs.length, .func (.func 35) #[] #[.pointer (some ⟨Bt, 0, none⟩)]] X fun e w' => ∃ v', e = .returned v' ∧ IntRow w.heap.size w' v' (chI (allV (qs.map Em.e))) ∧ Below w.heap.size w w') := fun X r Bt h1 h2 h3 h4 h5 => by
    have hBX := World.block_lt_of_cell? X ⟨Bt, 0, none⟩ h4
    have hrX : r < X.heap.size := (h3.lt _ rfl).2
    have hX := h5.size
    refine (appendSeq_any r qs.length 0 35 r #[.pointer (some ⟨Bt, 0, none⟩)] (allV (qs.map Em.e)) X (fun Y => Y.cell? ⟨Bt, 0, none⟩ = some (.pointer (some ⟨tb, 0, none⟩)) ∧ Below w.heap.size w Y) ?_ ⟨h4, h5⟩ (Nat.le_refl _) h3 (by rw [all_len hO, List.length_map]; exact Nat.le_refl _) egOrd (ordered_seq 1 Bt r b tb g cap qs w hT hO hl X (by omega))).mono ?_
    · rintro Y Z row ⟨c1, c2⟩ hg hr
      have hBY := World.block_lt_of_cell? Y ⟨Bt, 0, none⟩ c1
      refine ⟨?_, c2.grown hg c2.size (fun z e => by have := hr z e; omega)⟩
      unfold World.cell? at c1 ⊢
      rw [hg.block Bt hBY (fun e => by have hBX : Bt < X.heap.size := hBX; have := hr Bt e.symm; omega)]
      exact c1
    · rintro e w' ⟨v, rfl, hrow, hb⟩
      refine ⟨v, rfl, ?_, h5.trans (hb.mono h1)⟩
      unfold IntRow
      rw [chI_len, chI_map]
      exact owns_base hrow h1
  have hr := hT.room
  clear hT hO
  go_enter Try.func10, Try.ntmps10
  go_upto_region 1 with fail
  refine Rg.wpD_begin [] (fun _ => True) (by kernel_rfl) ?_
  refine Rg.wpD_pure 0 (v := ?_) (by simp only [List.getElem?_toArray, List.getElem?_cons_zero]; rfl) (by kernel_rfl) (by kernel_rfl) (by intro _ _ _ h; exact h) (by rfl) (fun wz => ?_) ?_
  rotate_left
  · first | (go_simp; done) | (go_simp; with_reducible rfl)
  simp only [Act.put, List.setIfInBounds_toArray, List.set_cons_succ, List.set_cons_zero]
  refine Rg.wpD_pure 3 (v := ?_) (by simp only [List.getElem?_toArray, List.getElem?_cons_succ, List.getElem?_cons_zero]; rfl) (by kernel_rfl) (by kernel_rfl) (by intro _ _ _ h; exact h) (by rfl) (fun wz => ?_) ?_
  rotate_left
  · first | (go_simp; done) | (go_simp; with_reducible rfl)
  simp only [Act.put, List.setIfInBounds_toArray, List.set_cons_succ, List.set_cons_zero]
  refine Rg.wpD_do 1 (by kernel_rfl) (by simp only [List.getElem?_toArray, List.getElem?_cons_succ, List.getElem?_cons_zero]; rfl) (fun K hK => ?_)
  go_simp
  go_at_call 21
  refine Calls.mono hlen ?_
  rintro e w1 ⟨rfl, rfl⟩
  refine hK _ _ (fun _ => trivial) ?_
  clear hK K hlen
  refine Rg.wpD_two 2 4 (by kernel_rfl) (by simp only [List.getElem?_toArray, List.getElem?_cons_succ, List.getElem?_cons_zero]; rfl) (by simp only [List.getElem?_toArray, List.getElem?_cons_succ, List.getElem?_cons_zero]; rfl) (fun K hK => ?_) (fun K hK => ?_)
  · refine step_make_own rfl _ _ 37 rfl w.heap.size 3 i0 (.int .i64 0) 1 Try.underlying37 hi hz0 hz1 .i64 .i64 qs.length rfl rfl (by rw [hz2]; omega) (by unfold maxLen; omega) (Nat.le_refl _) ?_
    intro w2 hrow hgr
    refine hK _ _ (fun _ => trivial) ?_
    clear hK K
    simp only [Act.put, List.setIfInBounds_toArray, List.set_cons_succ, List.set_cons_zero]
    have hw2 : w.heap.size < w2.heap.size := (hrow.lt _ rfl).2
    have b2 : Below w.heap.size w w2 := (below_drewN w 1).grown hgr (Nat.le_refl _) (fun _ e => by cases e)
    refine Rg.wpD_do 4 (by kernel_rfl) (by simp only [List.getElem?_toArray, List.getElem?_cons_succ, List.getElem?_cons_zero]; rfl) (fun K hK => ?_)
    go_simp
    go_at_call 28
    refine Calls.mono (ordered_any tb w2) ?_
    rintro e w3 ⟨rfl, rfl⟩
    refine hK _ _ (fun _ => trivial) ?_
    clear hK K
    have hap := HAP.out (w2.alloc (.cells #[.pointer (some ⟨tb, 0, none⟩)] 32)) w.heap.size w2.heap.size (Nat.le_refl _) (by omega) (hrow.alloc _) (Boxed.new w2 32 _).cell (b2.alloc (by omega) _)
    refine Rg.wpD_do 5 (by kernel_rfl) (by simp only [List.getElem?_toArray, List.getElem?_cons_succ, List.getElem?_cons_zero]; rfl) (fun K hK => ?_)
    go_simp
    go_at_call 27
    refine Calls.mono hap ?_
    clear hap
    rintro e w4 ⟨v', rfl, hv', b4⟩
    refine hK _ _ (fun _ => trivial) ?_
    clear hK K
    refine Rg.wpD_pure 6 (v := ?_) (by simp only [List.getElem?_toArray, List.getElem?_cons_succ, List.getElem?_cons_zero]; rfl) (by kernel_rfl) (by kernel_rfl) (by intro _ _ _ h; exact h) (by rfl) (fun wz => ?_) ?_
    rotate_left
    · first | (go_simp; done) | (go_simp; with_reducible rfl)
    simp only [Act.put, List.setIfInBounds_toArray, List.set_cons_succ, List.set_cons_zero]
    refine Rg.wpD_done (by kernel_rfl) ?_
    go_wp2
    go_ret
    exact ⟨v', rfl, hv', b4⟩
  · go_simp
    go_at_call 28
    refine Calls.mono (ordered_any tb w.drew) ?_
    rintro e w3 ⟨rfl, rfl⟩
    refine hK _ _ (fun _ => trivial) ?_
    clear hK K
    have b1 : Below w.heap.size w (w.drew.alloc (.cells #[.pointer (some ⟨tb, 0, none⟩)] 32)) := (below_drewN w 1).alloc (Nat.le_refl _) _
    have hc1 := (Boxed.new w.drew 32 (.pointer (some ⟨tb, 0, none⟩)))
    have hs1 : (w.drew.alloc (.cells #[.pointer (some ⟨tb, 0, none⟩)] 32)).heap.size = w.heap.size + 1 := World.size_alloc _ _
    refine Rg.wpD_do 2 (by kernel_rfl) (by simp only [List.getElem?_toArray, List.getElem?_cons_succ, List.getElem?_cons_zero]; rfl) (fun K hK => ?_)
    refine step_make_own rfl _ _ 37 rfl (w.heap.size + 1) 3 i0 (.int .i64 0) 1 Try.underlying37 hi hz0 hz1 .i64 .i64 qs.length rfl rfl (by rw [hz2]; omega) (by unfold maxLen; omega) (by omega) ?_
    intro w2 hrow hgr
    refine hK _ _ (fun _ => trivial) ?_
    clear hK K
    simp only [Act.put, List.setIfInBounds_toArray, List.set_cons_succ, List.set_cons_zero]
    have hc2 := (hc1.kept hgr (by simp)).cell
    have b2 := b1.grown hgr (by omega) (fun _ e => by cases e)
    rw [hs1] at hrow ⊢
    have hap := HAP.out w2 (w.heap.size + 1) w.heap.size (by omega) (by omega) hrow hc2 b2
    refine Rg.wpD_do 5 (by kernel_rfl) (by simp only [List.getElem?_toArray, List.getElem?_cons_succ, List.getElem?_cons_zero]; rfl) (fun K hK => ?_)
    go_simp
    go_at_call 27
    refine Calls.mono hap ?_
    clear hap
    rintro e w4 ⟨v', rfl, hv', b4⟩
    refine hK _ _ (fun _ => trivial) ?_
    clear hK K
    refine Rg.wpD_pure 6 (v := ?_) (by simp only [List.getElem?_toArray, List.getElem?_cons_succ, List.getElem?_cons_zero]; rfl) (by kernel_rfl) (by kernel_rfl) (by intro _ _ _ h; exact h) (by rfl) (fun wz => ?_) ?_
    rotate_left
    · first | (go_simp; done) | (go_simp; with_reducible rfl)
    simp only [Act.put, List.setIfInBounds_toArray, List.set_cons_succ, List.set_cons_zero]
    refine Rg.wpD_done (by kernel_rfl) ?_
    go_wp2
    go_ret
    exact ⟨v', rfl, hv', b4⟩

end Go.Proofs.Ytopmahiapejkgaa.Dm
