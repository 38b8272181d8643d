/- For every slice of nodes and every number: the law tapestrierlaw10.MatchAll returns true and leaves its argument as it was; no condition. -/
import Derived.Test.YtgjfapdnobhkcabMtTrees
import Derived.Test.YtgjfapdnobhkcabDmArgs
import Derived.Test.YtgjfapdnobhkcabRows
namespace Go.Proofs.Ytgjfapdnobhkcab
open Go Go.ChangeShapes Go.WideShapes Go.ChangeAt Go.RowKit Dm Mt
open Go.ChangeMaps (open_string shut_string)

theorem sel_none (es : List El) (e : Int) : selectorV es e [] = false := by simp [selectorV, selV]
theorem zero_named (n : Nd) : namedV n zeroCp = true := by simp [namedV, zeroCp, Cp.tag, Cp.ids, Cp.classes, Cp.attrs]
theorem zero_fits : fitsV 8 [(0, zeroCp)] = true := by decide +kernel
theorem sel_all (es : List El) (e : Int) : selectorV es e [(0, zeroCp)] = decide (0 ≤ e ∧ e < es.length) := by
  have h : ∀ Q k, selV Q es [(0, zeroCp)] k = true := fun Q k => by
    show compV Q es zeroCp k = true
    unfold compV
    rw [zero_named]
    rfl
  unfold selectorV
  rw [h, zero_fits]
  simp
theorem cmp_all (es : List El) (e : Int) : compoundV es e zeroCp = decide (0 ≤ e ∧ e < es.length) := sel_all es e
theorem given_none (es : List El) (e : Int) : givenV es e [] = false := rfl
theorem given_all (es : List El) (e : Int) : givenV es e [[], [(0, zeroCp)]] = decide (0 ≤ e ∧ e < es.length) := by
  simp only [givenV, List.any_cons, List.any_nil, sel_none, sel_all, Bool.false_or, Bool.or_false]
/-- Two selectors in a block that is known whole. -/
theorem sels_two {W : World} {B d : Nat} {x1 x2 : Value} {s1 s2 : Sel} (k : Blk W B 61 [x1, x2]) (h1 : PartsAt d W.heap.size W x1 s1) (h2 : PartsAt d W.heap.size W x2 s2) :
    SelsAt (d + 1) W.heap.size W (.slice (some ⟨B, 0, none⟩) 2 2) [s1, s2] := by
  refine .inr ⟨B, 0, 2, rfl, Nat.le_refl _, by unfold maxLen; omega, k.lt, fun j x hx => ?_⟩
  match j, hx with
  | 0, hx =>
    obtain rfl : s1 = x := by simpa using hx
    refine ⟨[x1], rfl, ⟨x1, rfl, h1⟩, fun i u hu => ?_⟩
    have hi : i = 0 := by have := (List.getElem?_eq_some_iff.1 hu).1; simpa using this
    subst hi
    rw [cell_of_block (show W.heap[B]? = _ from k)]
    simpa using hu
  | 1, hx =>
    obtain rfl : s2 = x := by simpa using hx
    refine ⟨[x2], rfl, ⟨x2, rfl, h2⟩, fun i u hu => ?_⟩
    have hi : i = 0 := by have := (List.getElem?_eq_some_iff.1 hu).1; simpa using this
    subst hi
    rw [cell_of_block (show W.heap[B]? = _ from k)]
    simpa using hu
  | j + 2, hx => simp at hx

set_option maxRecDepth 100000 in
set_option maxHeartbeats 8000000 in
theorem matchAll_walk (w : World) (v : Value) (l : List Nv) (hv : NodesAt w.heap.size w v l) (hN : ∀ n ∈ l, NdOk n.nd) (_hl : l.length * 88 ≤ 140737488351232) (a : Int) (_ha : (Lit.int .i64 a).wf = true) :
    Calls Try.prog 6 #[v, .int .i64 a] w fun e w' => e = .returned (.bool true) ∧ Below w.heap.size w w' := by
  have h0 := Mt.alive_any w
  obtain ⟨p, cap, rfl⟩ := hv.row.len
  have HV : Hid (NodesAt w.heap.size w (.slice p l.length cap) l) := hv
  have HN : Hid (∀ n ∈ l, NdOk n.nd) := hN
  clear hv hN
  go_enter Try.func6, Try.ntmps6
  go_wp2_with fail
  refine h0.mono ?_
  clear h0
  rintro e w1 ⟨rfl, b1⟩
  have h1 := trees_any _ l w1 (HV.out.next b1) HN.out
  go_wp2_with fail
  refine h1.mono ?_
  clear h1
  rintro e w2 ⟨hm, b2⟩
  have b12 := below_next b1 b2
  rcases hm with rfl | ⟨tb, rb, b, nv, dv, ns, ds, es, rfl, hG, -, -, hel, h40⟩
  · go_wp2
    go_ret
    exact ⟨rfl, b12⟩
  · obtain ⟨P, hP⟩ : ∃ P, w2.alloc (.cells #[.int .i64 0, .string ⟨#[]⟩, .slice none 0 0, .slice none 0 0, .slice none 0 0, .slice none 0 0] 58) = P := ⟨_, rfl⟩
    have bP : Below w2.heap.size w2 P := by rw [← hP]; exact (Below.refl _ _).alloc (Nat.le_refl _) _
    have kP : Blk P w2.heap.size 58 [.int .i64 0, .string ⟨#[]⟩, .slice none 0 0, .slice none 0 0, .slice none 0 0, .slice none 0 0] := by rw [← hP]; exact Blk.new w2 58 [.int .i64 0, .string ⟨#[]⟩, .slice none 0 0, .slice none 0 0, .slice none 0 0, .slice none 0 0]
    obtain ⟨R, hR⟩ : ∃ R, P.alloc (.cells #[.slice (some ⟨w2.heap.size, 0, none⟩) 1 1] 61) = R := ⟨_, rfl⟩
    have bR : Below P.heap.size P R := by rw [← hR]; exact (Below.refl _ _).alloc (Nat.le_refl _) _
    have kR : Blk R P.heap.size 61 [.slice (some ⟨w2.heap.size, 0, none⟩) 1 1] := by rw [← hR]; exact Blk.new P 61 _
    have hSel : PartsAt 0 P.heap.size P (.slice (some ⟨w2.heap.size, 0, none⟩) 1 1) [(0, zeroCp)] := parts_one kP (cp_zero _ _ _) ⟨by decide, by decide⟩
    have bAll : Below w2.heap.size w2 R := below_next bP bR
    have HG : Hid (Mt.Good R tb es) := hG.next bAll
    have HS : Hid (PartsAt 0 R.heap.size R (.slice (some ⟨w2.heap.size, 0, none⟩) 1 1) [(0, zeroCp)]) := hSel.next bR
    have HK : Hid (Blk R P.heap.size 61 [.slice (some ⟨w2.heap.size, 0, none⟩) 1 1]) := kR
    have bb := below_next b12 bAll
    obtain ⟨val, hval⟩ : ∃ val : Bool, decide (0 ≤ a ∧ a < es.length) = val := ⟨_, rfl⟩
    have q1 := HG.out.cmp a 0 zeroCp _ _ _ _ (cp_zero _ _ _)
    rw [cmp_all, hval] at q1
    have Q2 : Hid (∀ X, Below R.heap.size R X → Calls Try.prog 19 #[.pointer (some ⟨tb, 0, none⟩), .int .i64 a, .agg #[.slice (some ⟨w2.heap.size, 0, none⟩) 1 1]] X fun r w' => r = .returned (.bool val) ∧ Below X.heap.size X w') := fun X hX => by
      have q := (HG.out.next hX).sel a 0 _ _ (HS.out.next hX)
      rw [sel_all, hval] at q
      exact q
    have Q3 : Hid (∀ X, Below R.heap.size R X → Calls Try.prog 19 #[.pointer (some ⟨tb, 0, none⟩), .int .i64 a, .agg #[.slice none 0 0]] X fun r w' => r = .returned (.bool false) ∧ Below X.heap.size X w') := fun X hX => by
      have q := (HG.out.next hX).sel a 0 _ _ (parts_none 0 X.heap.size X)
      rw [sel_none] at q
      exact q
    have Q4 : Hid (∀ X, Below R.heap.size R X → Calls Try.prog 20 #[.pointer (some ⟨tb, 0, none⟩), .int .i64 a, .slice none 0 0] X fun r w' => r = .returned (.bool false) ∧ Below X.heap.size X w') := fun X hX => by
      have q := (HG.out.next hX).given a 0 (.slice none 0 0) [] ⟨rfl, _, _, rfl⟩
      rw [given_none] at q
      exact q
    have Q5 : Hid (∀ X, Below R.heap.size R X → ∀ Y, X.alloc (.cells #[.slice none 0 0, .slice (some ⟨w2.heap.size, 0, none⟩) 1 1] 61) = Y → Calls Try.prog 20 #[.pointer (some ⟨tb, 0, none⟩), .int .i64 a, .slice (some ⟨X.heap.size, 0, none⟩) 2 2] Y fun r w' => r = .returned (.bool val) ∧ Below X.heap.size X w') := fun X hX Y hY => by
      have bY : Below X.heap.size X Y := by rw [← hY]; exact (Below.refl _ _).alloc (Nat.le_refl _) _
      have kY : Blk Y X.heap.size 61 [.slice none 0 0, .slice (some ⟨w2.heap.size, 0, none⟩) 1 1] := by rw [← hY]; exact Blk.new X 61 _
      have bRY := below_next hX bY
      have q := (HG.out.next bRY).given a 1 _ _ (sels_two kY (parts_none 0 Y.heap.size Y) (HS.out.next bRY))
      rw [given_all, hval] at q
      exact q.mono (fun r w' h => ⟨h.1, below_next bY h.2⟩)
    rw [hel] at hval
    have HVAL : Hid (decide (0 ≤ a ∧ a < (l.length : Int)) = val) := hval
    clear hG hSel kP kR bP bR bAll hval hel h40 HS HG b1 b2 b12
    have c1 := (blk1 HK.out).1
    rcases Int.lt_or_le a 0 with ha | ha
    · obtain rfl : false = val := (decide_eq_false (by omega)).symm.trans HVAL.out
      have g0 : ¬ (0 ≤ a) := by omega
      clear HVAL
      go_wp2_with fail
      refine q1.mono ?_
      clear q1 c1
      rintro r x1 ⟨rfl, a1⟩
      have c1 := (blk1 (HK.out.next a1)).1
      have q2 := Q2.out x1 a1
      go_wp2_with fail
      refine q2.mono ?_
      clear q2 c1
      rintro r x2 ⟨rfl, a2⟩
      have a12 := below_next a1 a2
      have q3 := Q3.out x2 a12
      go_wp2_with fail
      refine q3.mono ?_
      clear q3
      rintro r x3 ⟨rfl, a3⟩
      have a13 := below_next a12 a3
      have q4 := Q4.out x3 a13
      go_wp2_with fail
      refine q4.mono ?_
      clear q4
      rintro r x4 ⟨rfl, a4⟩
      have a14 := below_next a13 a4
      have c1 := (blk1 (HK.out.next a14)).1
      obtain ⟨Y, hY⟩ : ∃ Y, x4.alloc (.cells #[.slice none 0 0, .slice (some ⟨w2.heap.size, 0, none⟩) 1 1] 61) = Y := ⟨_, rfl⟩
      have q5 := Q5.out x4 a14 Y hY
      go_wp2_with fail
      refine q5.mono ?_
      clear q5 c1
      rintro r x5 ⟨rfl, a5⟩
      have a15 := below_next bb (below_next a14 a5)
      go_wp2
      go_ret
      exact ⟨rfl, a15⟩
    · by_cases hb : a < (l.length : Int)
      · obtain rfl : true = val := (decide_eq_true ⟨ha, hb⟩).symm.trans HVAL.out
        clear HVAL
        go_wp2_with fail
        refine q1.mono ?_
        clear q1 c1
        rintro r x1 ⟨rfl, a1⟩
        have c1 := (blk1 (HK.out.next a1)).1
        have q2 := Q2.out x1 a1
        go_wp2_with fail
        refine q2.mono ?_
        clear q2 c1
        rintro r x2 ⟨rfl, a2⟩
        have a12 := below_next a1 a2
        have q3 := Q3.out x2 a12
        go_wp2_with fail
        refine q3.mono ?_
        clear q3
        rintro r x3 ⟨rfl, a3⟩
        have a13 := below_next a12 a3
        have q4 := Q4.out x3 a13
        go_wp2_with fail
        refine q4.mono ?_
        clear q4
        rintro r x4 ⟨rfl, a4⟩
        have a14 := below_next a13 a4
        have c1 := (blk1 (HK.out.next a14)).1
        obtain ⟨Y, hY⟩ : ∃ Y, x4.alloc (.cells #[.slice none 0 0, .slice (some ⟨w2.heap.size, 0, none⟩) 1 1] 61) = Y := ⟨_, rfl⟩
        have q5 := Q5.out x4 a14 Y hY
        go_wp2_with fail
        refine q5.mono ?_
        clear q5 c1
        rintro r x5 ⟨rfl, a5⟩
        have a15 := below_next bb (below_next a14 a5)
        go_wp2
        go_ret
        exact ⟨rfl, a15⟩
      · obtain rfl : false = val := (decide_eq_false (by omega)).symm.trans HVAL.out
        have hb' : decide (a < (l.length : Int)) = false := decide_eq_false hb
        clear HVAL
        go_wp2_with fail
        refine q1.mono ?_
        clear q1 c1
        rintro r x1 ⟨rfl, a1⟩
        have c1 := (blk1 (HK.out.next a1)).1
        have q2 := Q2.out x1 a1
        go_wp2_with fail
        refine q2.mono ?_
        clear q2 c1
        rintro r x2 ⟨rfl, a2⟩
        have a12 := below_next a1 a2
        have q3 := Q3.out x2 a12
        go_wp2_with fail
        refine q3.mono ?_
        clear q3
        rintro r x3 ⟨rfl, a3⟩
        have a13 := below_next a12 a3
        have q4 := Q4.out x3 a13
        go_wp2_with fail
        refine q4.mono ?_
        clear q4
        rintro r x4 ⟨rfl, a4⟩
        have a14 := below_next a13 a4
        have c1 := (blk1 (HK.out.next a14)).1
        obtain ⟨Y, hY⟩ : ∃ Y, x4.alloc (.cells #[.slice none 0 0, .slice (some ⟨w2.heap.size, 0, none⟩) 1 1] 61) = Y := ⟨_, rfl⟩
        have q5 := Q5.out x4 a14 Y hY
        go_wp2_with fail
        refine q5.mono ?_
        clear q5 c1
        rintro r x5 ⟨rfl, a5⟩
        have a15 := below_next bb (below_next a14 a5)
        go_wp2
        go_ret
        exact ⟨rfl, a15⟩


set_option maxRecDepth 100000 in
theorem matchAll_lifted (os : Os) (started : os.Started) (H : Type) (enc : TypeId × Value → H) :
    ReturnsInHanded {} Try.checked os 6 .any (Rows.matchAllSpec.pre6 enc Try.prog Try.f6 Rows.matchAllRow.domain false) (Rows.matchAllSpec.post enc Try.prog Try.f6 false true false false) := by
  refine returnsInHanded_of_change_sized (C := Try.checked) ownNone started (by kernel_rfl) Try.func6
    (ChangeSpec.witness6 (enc := enc) (C := Try.checked) false ⟨#[], #[.slice none 0 0, .int .i64 0], []⟩ 8 (by kernel_rfl) (by kernel_rfl) (by kernel_rfl) (by kernel_rfl)) ?_
  intro W base args ds gs before hval hW _ hsz0 _
  have hW' := hW
  obtain ⟨p, q, hA0, hV, rfl, hfz, hnd⟩ := hW
  have hA : DataW.TrodAll enc Try.prog W 0 (fun _ => true) true Try.f6.params.toList args.toList ds p := hA0
  rw [Try.params6] at hA hval hsz0
  obtain ⟨v0, vs0, d0, ds0, p0, q0, hargs, rfl, rfl, h0, r0⟩ := trodAll_cons hA
  obtain ⟨v1, vs1, d1, ds1, p1, q1, rfl, rfl, rfl, h1, r1⟩ := trodAll_cons r0
  obtain ⟨rfl, rfl, rfl⟩ := trodAll_nil r1
  obtain rfl : args = #[v0, v1] := by cases args; simp_all
  obtain ⟨rfl, rfl⟩ := trodVars_none hV
  have hsz := List.all_eq_true.1 hsz0
  obtain ⟨a0, len0, cap0, rfl⟩ := okWide_slice Try.underlying29 (hval 0 29 v0 rfl rfl)
  have k0 := h0
  have lt0 : ∀ x ∈ p0, x.block < W.heap.size := by obtain ⟨m, hm⟩ := k0; exact DataW.trod_lt m _ _ _ hm
  obtain ⟨z0, w0, y0, u0⟩ := Dm.nodesAt_of_reads k0 (fun n hn => by simpa using hsz n (DataW.weights_mem_each (j := 0) rfl rfl n hn))
  obtain ⟨a1, rfl, rfl, rfl, w1⟩ := open_int Try.underlying3 (hval 1 3 v1 rfl rfl) h1
  clear hA0
  refine (matchAll_walk W _ z0 w0 y0 u0 a1 w1).mono fun e W' ⟨he, bel⟩ => ?_
  subst he
  exact ⟨_, rfl, _, _, _, [], _, [], hW', trodAll_mk1 (shut_bool Try.underlying4 _), (trodAll_cons_mk (Below.trod laidOut (by kernel_rfl) (of_decide_eq_true (by kernel_rfl)) k0 bel lt0) (trodAll_cons_mk (shut_int Try.underlying3 w1) trodAll_mk0)), rfl, bel.frame _, fun h => by cases h⟩

theorem matchAll_said : Rows.MatchAllSaid :=
  OpenClaim.holds_of_wide 6 Try.f6 rfl rfl rfl rfl rfl rfl rfl ⟨rfl, rfl, rfl, rfl, rfl⟩ rfl rfl rfl rfl rfl (by kernel_rfl) Try.func6 (by kernel_rfl)
    (of_decide_eq_true (by kernel_rfl)) (by unfold Func.isWrapper; first | (rw [if_pos (by decide +kernel)]; kernel_rfl) | (rw [if_neg (by decide +kernel)]; exact ⟨rfl, rfl⟩))
    (fun os started H enc _ => matchAll_lifted os started H enc)
#print axioms matchAll_said


end Go.Proofs.Ytgjfapdnobhkcab
