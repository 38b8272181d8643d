/- The iterator text.prepared over whatever iterator tells integers: it tells the same, prepared; it keeps two variables in memory. -/
import Derived.Shelf.RegionOpen
import Derived.Test.YtaecamnlimlpkaaDoorDec
namespace Go.Proofs.YtaecamnlimlpkaaDoor
open Go Go.RowKit Go.Shelf
attribute [local go_sem] Oper.semAt_some

set_option maxHeartbeats 400000 in
theorem replaced_any (p : Int) (w : World) : Calls Tryd.prog 23 #[.int .i64 p] w fun e w' => e = .returned (.int .i64 (repl p)) ∧ w' = w := by
  by_cases h13 : p = 13
  · subst h13
    go_enter Tryd.func23, Tryd.ntmps23
    go_wp2
    go_ret
    exact ⟨rfl, rfl⟩
  · by_cases h12 : p = 12
    · subst h12
      go_enter Tryd.func23, Tryd.ntmps23
      go_wp2
      go_ret
      exact ⟨rfl, rfl⟩
    · by_cases h0 : p = 0
      · subst h0
        go_enter Tryd.func23, Tryd.ntmps23
        go_wp2
        go_ret
        exact ⟨rfl, rfl⟩
      · have hr : repl p = p := by simp [repl, h13, h12, h0]
        rw [hr]
        have e13 : (p == 13) = false := by simpa using h13
        have e12 : (p == 12) = false := by simpa using h12
        have e0 : (p == 0) = false := by simpa using h0
        go_enter Tryd.func23, Tryd.ntmps23
        go_wp2
        go_ret
        exact ⟨rfl, rfl⟩

/-- In the wide fence a round's contract stands at whatever depth, in a round or out of one. -/
theorem roundAny {n m l' l : Nat} {f : FuncId} {tmps : Array Value} {assign body : Code} {w : World} {R : Ending → World → Prop} (h : RoundIn Fence.wide n Tryd.prog l f tmps assign body w R) :
    RoundIn (Fence.wide.inRound l') m Tryd.prog l f tmps assign body w R := ⟨h.1, fun c cs _ => h.2 c cs (fun d hd => by cases hd)⟩

theorem follows : Tryd.prog.follows .mixedOrders = true := by kernel_rfl

set_option maxRecDepth 100000 in
set_option maxHeartbeats 1000000 in
theorem prepared1_in (n l Bp n₀ M : Nat) (gf : Nat) (lb : Array Value) (xs : List Int) (J : List Int → World → Prop) (W : World) (hBp : Bp < n₀) (hn₀ : n₀ ≤ W.heap.size)
    (eg : ∀ args w, (callFunc gf args).run Tryd.prog w = .ok (.enter gf args) w) (hn : 1 ≤ n)
    (hseq : SeqX Fence.wide (n - 1) Tryd.prog gf lb (fun x : Int => #[.int .i64 x]) n₀ (fun ys => ys = xs) M 0 W)
    (hJ : AbidesIn W.heap.size (W.heap.size + 4) J)
    (hY : ∀ pre x W1, J pre W1 → pre.length < M → W.heap.size + 4 ≤ W1.heap.size → YieldAt Fence.wide (n - 1) Tryd.prog l #[.int .i64 x] W1 fun e W' => e = .returned (.bool true) ∧ J (pre ++ [x]) W' ∧ KeepsIn n₀ W.heap.size (W.heap.size + 4) W1 W')
    (hc : W.cell? ⟨Bp, 0, none⟩ = some (.func (.func gf) #[] lb)) (h0 : J [] W) :
    CallsIn Fence.wide n Tryd.prog 22 #[.func (.yield l) #[] #[], .pointer (some ⟨Bp, 0, none⟩)] W fun e W' => (∃ v, e = .returned v) ∧ ∃ ys, ys = prep xs ∧ J ys W' := by
  refine callsIn_of_wp_marks Tryd.func22 rfl trivial ?_ rfl
  simp only [Tryd.ntmps22, List.size_toArray, List.length_cons, List.length_nil, Nat.reduceAdd, Nat.reduceSub, Array.replicate_succ, Array.replicate_zero, List.push_toArray, List.append_toArray, List.nil_append, List.cons_append]
  have hc2 : ((W.alloc (.cells #[.func (.yield l) #[] #[]] 53)).alloc (.cells #[.bool false] 4)).cell? ⟨Bp, 0, none⟩ = some (.func (.func gf) #[] lb) :=
    ((((Below.refl n₀ W).alloc hn₀ _).alloc (by simp; omega) _).cell (p := ⟨Bp, 0, none⟩) hBp).trans hc
  gi_wp2
  have bY := Boxed.new W 53 (.func (.yield l) #[] #[])
  have bB := Boxed.new (W.alloc (.cells #[.func (.yield l) #[] #[]] 53)) 4 (.bool false)
  replace bY := bY.alloc (.cells #[.bool false] 4)
  rw [World.size_alloc] at bB
  have hJ0 : J [] ((W.alloc (.cells #[.func (.yield l) #[] #[]] 53)).alloc (.cells #[.bool false] 4)) := hJ.alloc _ (hJ.alloc _ h0)
  have hB0 : Below W.heap.size W ((W.alloc (.cells #[.func (.yield l) #[] #[]] 53)).alloc (.cells #[.bool false] 4)) := ((Below.refl _ W).alloc (Nat.le_refl _) _).alloc (by simp) _
  have hs0 : ((W.alloc (.cells #[.func (.yield l) #[] #[]] 53)).alloc (.cells #[.bool false] 4)).heap.size = W.heap.size + 2 := by simp
  clear hc2
  generalize ((W.alloc (.cells #[.func (.yield l) #[] #[]] 53)).alloc (.cells #[.bool false] 4)) = w2 at *
  refine wpIn_rangeFunc_X rfl hn (gf := gf) (lb := lb) rfl trivial eg (hseq.later hB0) (by omega) (Below.refl _ _) (fun _ => rfl)
    (fun pre X => J (prep pre) X ∧ Boxed X W.heap.size 53 (.func (.yield l) #[] #[]) ∧ Boxed X (W.heap.size + 1) 4 (.bool (cr pre)))
    ?hI ⟨hJ0, bY, bB⟩
    (fun x => { tmps := #[.func (.yield l) #[] #[], .pointer (some ⟨Bp, 0, none⟩), .pointer (some ⟨W.heap.size, 0, none⟩), .pointer (some ⟨W.heap.size + 1, 0, none⟩), .int .i64 x, undef, .func (.func gf) #[] lb, .int .i64 x, undef, undef, undef, undef, undef, undef, undef, undef, undef, undef, undef, undef, undef], defers := [] }) ?assign ?body ?done
  case hI =>
    intro s X Y row hs hg hr
    rw [hs0] at hr
    exact ⟨hJ _ X Y row hs.1 hg (fun r e => by have := hr r e; omega), hs.2.1.kept hg (fun e => by have := hr _ e.symm; omega), hs.2.2.kept hg (fun e => by have := hr _ e.symm; omega)⟩
  case assign =>
    intro l x X K hK
    gi_wp2
    exact hK
  case body =>
    rintro l' pre x X ⟨hj, hy, hb⟩ hlt hsz
    have hcy := hy.cell
    have hcb := hb.cell
    have hfb := hb.frozen
    have hset : KeepsIn n₀ w2.heap.size (w2.heap.size + 2 + 0) X (X.setCell ⟨W.heap.size + 1, 0, none⟩ (.bool (x == 13))) :=
      KeepsIn.of_grownBy (grownBy_setCell' X _ _) (by omega) (by omega) (fun r e => by cases e; omega)
    have hj1 : J (prep pre) (X.setCell ⟨W.heap.size + 1, 0, none⟩ (.bool (x == 13))) := hJ.setCell _ hj (by omega) (by omega)
    have hb1 : Boxed (X.setCell ⟨W.heap.size + 1, 0, none⟩ (.bool (x == 13))) (W.heap.size + 1) 4 (.bool (cr (pre ++ [x]))) := by rw [cr_snoc]; exact hb.set _
    have hy1 : Boxed (X.setCell ⟨W.heap.size + 1, 0, none⟩ (.bool (x == 13))) W.heap.size 53 (.func (.yield l) #[] #[]) := hy.kept (grownBy_setCell' X _ _) (by simp)
    by_cases hit : cr pre = true ∧ x = 10
    · obtain ⟨h1, rfl⟩ := hit
      rw [h1] at hcb
      gi_wp2
      exact ⟨hset, by rw [prep_hit pre ⟨h1, rfl⟩]; exact hj1, hy1, hb1⟩
    · have hsz1 : (X.setCell ⟨W.heap.size + 1, 0, none⟩ (.bool (x == 13))).heap.size = X.heap.size := World.size_setCell _ _ _
      have hlen : (prep pre).length < M := by have := prep_length_le pre; omega
      obtain ⟨fn, tmps, assign, body, hyi, hR⟩ := hY (prep pre) (repl x) _ (hJ.drew hj1) hlen (by show _ ≤ (X.setCell _ _).heap.size; rw [hsz1]; omega)
      have hcy1 := hy1.cell
      have FIN : Hid (∀ w3, J (prep pre ++ [repl x]) w3 → KeepsIn n₀ W.heap.size (W.heap.size + 4) (X.setCell ⟨W.heap.size + 1, 0, none⟩ (.bool (x == 13))).drew w3 →
          KeepsIn n₀ w2.heap.size (w2.heap.size + 2 + 0) X w3 ∧ J (prep (pre ++ [x])) w3 ∧ Boxed w3 W.heap.size 53 (.func (.yield l) #[] #[]) ∧ Boxed w3 (W.heap.size + 1) 4 (.bool (cr (pre ++ [x])))) := fun w3 hJ3 hk3 => by
        have hd : KeepsIn n₀ W.heap.size (W.heap.size + 4) (X.setCell ⟨W.heap.size + 1, 0, none⟩ (.bool (x == 13))) (X.setCell ⟨W.heap.size + 1, 0, none⟩ (.bool (x == 13))).drew := KeepsIn.of_grownBy (grownBy_drew _ none) (by rw [hsz1]; omega) (by rw [hsz1]; omega) (fun r e => by cases e)
        have hk := hd.trans hk3
        exact ⟨hset.trans (hk.mono (Nat.le_refl _) (by omega) (by omega)), by rw [prep_miss pre hit]; exact hJ3, (hk.own _ (by omega) (by omega)).trans hy1, (hk.own _ (by omega) (by omega)).trans hb1⟩
      have hfo := follows
      rcases hc0 : cr pre with _ | _
      · rw [hc0] at hcb
        clear hc0
        gi_wp2_with fail
        gi_region_with_o (first | (refine ⟨trivial, fun h => (by cases h), ?_⟩; gi_at_call 23; refine (CallsIn.inRound l' (callsIn_wide.2 (replaced_any x _))).mono ?_; rintro e w' ⟨rfl, rfl⟩) | (refine ⟨fun h => (by cases h), (roundAny hR).mono ?_⟩; rintro e w3 ⟨rfl, hJ3, hk3⟩))
        all_goals gi_wp2
        all_goals exact (show _ from FIN) _ hJ3 hk3
      · rw [hc0] at hcb
        have hx10 : (x == 10) = false := by
          rw [beq_eq_false_iff_ne]
          exact fun e => hit ⟨hc0, e⟩
        clear hc0
        gi_wp2_with fail
        gi_region_with_o (first | (refine ⟨trivial, fun h => (by cases h), ?_⟩; gi_at_call 23; refine (CallsIn.inRound l' (callsIn_wide.2 (replaced_any x _))).mono ?_; rintro e w' ⟨rfl, rfl⟩) | (refine ⟨fun h => (by cases h), (roundAny hR).mono ?_⟩; rintro e w3 ⟨rfl, hJ3, hk3⟩))
        all_goals gi_wp2
        all_goals exact (show _ from FIN) _ hJ3 hk3
  case done =>
    rintro ys X rfl ⟨hj, hy, hb⟩ hK
    gi_wp2
    refine ⟨by simp, .inl ⟨_, _, rfl, run_takeDeferred hK, ?_⟩⟩
    exact ⟨_, results_none rfl _ _ _, ⟨_, rfl⟩, _, rfl, hJ.putObj _ hj (by omega) (by omega)⟩

/-- text.prepared: the iterator that it is handed is boxed; the closure captures the box. -/
theorem prepared_in (n gf : Nat) (lb : Array Value) (w : World) :
    CallsIn Fence.wide n Tryd.prog 16 #[.func (.func gf) #[] lb] w fun e w' => e = .returned (.func (.func 22) #[] #[.pointer (some ⟨w.heap.size, 0, none⟩)]) ∧ w' = w.alloc (.cells #[.func (.func gf) #[] lb] 45) := by
  refine callsIn_of_wp Tryd.func16 rfl trivial ?_ rfl
  simp only [Tryd.ntmps16, List.size_toArray, List.length_cons, List.length_nil, Nat.reduceAdd, Nat.reduceSub, Array.replicate_succ, Array.replicate_zero, List.push_toArray, List.append_toArray, List.nil_append, List.cons_append]
  gi_wp2
  go_ret
  exact ⟨rfl, rfl⟩

/-- WHAT text.prepared HANDS BACK, as an iterator. -/
theorem prepared_seq (n Bp n₀ M gf : Nat) (lb : Array Value) (xs : List Int) (w : World) (hn : 1 ≤ n) (hBp : Bp < n₀) (hn₀ : n₀ ≤ w.heap.size) (eg : ∀ args w, (callFunc gf args).run Tryd.prog w = .ok (.enter gf args) w)
    (hseq : SeqX Fence.wide (n - 1) Tryd.prog gf lb (fun x : Int => #[.int .i64 x]) n₀ (fun ys => ys = xs) M 0 w)
    (hc : w.cell? ⟨Bp, 0, none⟩ = some (.func (.func gf) #[] lb)) :
    SeqX Fence.wide n Tryd.prog 22 #[.pointer (some ⟨Bp, 0, none⟩)] (fun x : Int => #[.int .i64 x]) n₀ (fun ys => ys = prep xs) M 4 w := fun l J W hW hJ hY h0 =>
  prepared1_in n l Bp n₀ M gf lb xs J W hBp (Nat.le_trans hn₀ hW.size) eg hn (hseq.later hW) hJ hY ((hW.cell (p := ⟨Bp, 0, none⟩) (by simp; omega)).trans hc) h0

end Go.Proofs.YtaecamnlimlpkaaDoor
