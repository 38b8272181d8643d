/- For every size and every row of keys: the law tapestrierlaw18.LruLast returns true and leaves its arguments as they were; no condition. -/
import Derived.Test.YtamcomlnfdfmeaaLrUse
import Derived.Test.YtamcomlnfdfmeaaLrArgs
import Derived.Test.YtamcomlnfdfmeaaLrDed
namespace Go.Proofs.Ytamcomlnfdfmeaa
open Go.Proofs.Ytamcomlnfdfmeaa.Tre
open Go Go.ChangeShapes Go.WideShapes Go.ChangeAt Go.RowKit Bl Wg Lr

theorem rev_at {l : List Int} {j p : Nat} (h : j + p + 1 = l.length) {x : Int} (hx : l[j]? = some x) : l.reverse.take (p + 1) = l.reverse.take p ++ [x] := by
  have : l.reverse[p]? = some x := by
    rw [List.getElem?_reverse (by omega), ← hx]
    congr 1; omega
  rw [List.take_add_one, this]; rfl
theorem acc_step (y : List Int) (p : Nat) (x : Int) (h : y.take (p + 1) = y.take p ++ [x]) : (y.take (p + 1)).foldl accV [] = accV ((y.take p).foldl accV []) x := by
  rw [h, List.foldl_append]; rfl
theorem acc_end {y : List Int} {p s : Nat} {A : List Int} (h : (y.take p).foldl accV [] = A) (hA : A.length ≤ s) (he : y.length ≤ p ∨ A.length = s) : (ded y).take s = A := by
  rcases he with he | he
  · rw [List.take_of_length_le he, acc_all] at h
    rw [h, List.take_of_length_le hA]
  · obtain ⟨r, hr⟩ := acc_prefix (y.drop p) A
    have : y.foldl accV [] = A ++ r := by
      rw [← hr, ← h, ← List.foldl_append, List.take_append_drop]
    rw [acc_all] at this
    rw [this, ← he, List.take_left']
    rfl

set_option maxRecDepth 100000 in
set_option maxHeartbeats 4000000 in
theorem lruLast_walk (w : World) (n : Int) (_h0 : (Lit.int .i64 n).wf = true) (v : Value) (l : List Int) (hl : IntsR w v l) :
    Calls Try.prog 4 #[.int .i64 n, v] w fun e w' => e = .returned (.bool true) ∧ Below w.heap.size w w' := by
  have hal := Lr.alive_any w
  obtain ⟨p, cap, rfl⟩ := hl.len
  have HR : Hid (IntsR w (.slice p l.length cap) l) := hl
  have hmx := hl.short
  unfold maxLen at hmx
  clear hl
  go_enter Try.func4, Try.ntmps4
  go_wp2_with fail
  go_at_call 6
  refine Calls.mono hal ?_
  clear hal _h0
  rintro e w1 ⟨rfl, b1⟩
  by_cases g1 : n < 0
  · have d1 : decide (n < 0) = true := by simpa using g1
    clear g1
    go_wp2
    go_ret
    exact ⟨rfl, b1⟩
  have d1 : decide (n < 0) = false := by simpa using g1
  by_cases g2 : 20 < n
  · have d2 : decide (20 < n) = true := by simpa using g2
    clear g1 g2
    go_wp2
    go_ret
    exact ⟨rfl, b1⟩
  have d2 : decide (20 < n) = false := by simpa using g2
  by_cases g3 : 100 < l.length
  · have d3 : decide (100 < l.length) = true := by simpa using g3
    have d3' : decide ((100 : Int) < (l.length : Int)) = true := by simp; omega
    clear g1 g2 g3
    go_wp2
    go_ret
    exact ⟨rfl, b1⟩
  have d3 : decide (100 < l.length) = false := by simpa using g3
  have d3' : decide ((100 : Int) < (l.length : Int)) = false := by simp; omega
  have hl100 : l.length ≤ 100 := by omega
  have hn2 : ((cutV n : Nat) : Int) = n := by unfold cutV; omega
  have hn3 : cutV n ≤ 20 := by unfold cutV; omega
  have hnew := new_any n w1
  have S0 := Mine.new n w w1 b1
  generalize cutV n = s at *
  have HN : Hid (((s : Nat) : Int) = n ∧ s ≤ 20) := ⟨hn2, hn3⟩
  clear g1 g2 g3 b1 hn2 hn3
  go_wp2_with fail
  go_at_call 7
  refine Calls.mono hnew ?_
  clear hnew
  rintro e w2 ⟨rfl, hw2⟩
  rw [← hw2] at S0
  generalize w1.heap.size = c at *
  clear hw2 d1 d2 d3 d3'
  obtain ⟨L, hL⟩ : ∃ L, l.length = L := ⟨_, rfl⟩
  rw [hL] at HR hmx hl100 ⊢
  have HL : Hid (l.length = L) := hL
  clear hL
  go_wp2_with fail
  go_loopw [7] (fun x wr => ∃ (i : Nat) (ls : List En), x = .int .i64 i ∧ i ≤ L ∧ Mine w c s ls wr ∧ Hid (keysV ls = (ded (l.take i).reverse).take s)) (fun x _ => L - (intOf x).toNat)
  case atStart => exact ⟨0, [], rfl, Nat.zero_le _, S0, (by show keysV [] = _; simp [keysV, ded])⟩
  case round =>
    clear S0
    obtain ⟨i, ls, rfl, hi, S, HK⟩ := hrel
    have HS : Hid (Mine w c s ls wr) := S
    clear S
    by_cases hil : i < L
    · have hlt : decide (i < L) = true := by simpa using hil
      obtain ⟨x, hx⟩ : ∃ x, l[i]? = some x := ⟨_, List.getElem?_eq_getElem (by have := HL.out; omega)⟩
      obtain ⟨bb, off, rfl, _, _, _⟩ := HR.out.get hx
      have hcl : Hid (∀ X, Below w.heap.size w X → X.cell? ⟨bb, off + i, none⟩ = some (.int .i64 x)) := fun X hb => by
        obtain ⟨_, _, e, _, _, h⟩ := (IntsR.below HR.out hb).get hx
        cases e
        exact h
      have e1 := hcl.out _ HS.out.below
      have hii : (i : Int) < (L : Int) := by omega
      have hg := HS.out.get x
      have HIL : Hid (i < L) := hil
      have hnext : Hid (keysV (askL s ls x i) = (ded (l.take (i + 1)).reverse).take s) := by
        show keysV _ = _
        rw [List.take_add_one, hx, Option.toList_some, ded_rev]
        exact ask_keys HS.out.good (ded_apart _) HK.out x i
      unfold askL at hnext
      clear hx hi hil HK HS
      cases hb : (getR ls x).2 with
      | true =>
        rw [hb] at hg
        rw [hb, if_pos rfl] at hnext
        clear hb
        go_wp2_with fail
        go_at_call 11
        refine Calls.mono hg ?_
        clear hg e1
        rintro e w3 ⟨rfl, S3⟩
        go_wp2
        go_roundw
        case rel => exact ⟨i + 1, _, by go_num, by have := HIL.out; omega, S3, hnext⟩
        case measure => have := HIL.out; simp [intOf] <;> omega
      | false =>
        rw [hb] at hg
        rw [hb, if_neg (by simp)] at hnext
        clear hb
        go_wp2_with fail
        go_at_call 11
        refine Calls.mono hg ?_
        clear hg e1
        rintro e w3 ⟨rfl, S3⟩
        have e1 := hcl.out _ S3.below
        have hp := S3.put x i
        clear S3
        go_wp2_with fail
        go_at_call 9
        refine Calls.mono hp ?_
        clear hp e1
        rintro e w4 ⟨rfl, S4⟩
        go_wp2
        go_roundw
        case rel => exact ⟨i + 1, _, by go_num, by have := HIL.out; omega, S4, hnext⟩
        case measure => have := HIL.out; simp [intOf] <;> omega
    · have hlt : decide (i < L) = false := by simpa using hil
      obtain rfl : i = L := by omega
      have HK2 : Hid (keysV ls = (ded l.reverse).take s) := by
        have := HK.out
        rwa [show l.take i = l from List.take_of_length_le (by have := HL.out; omega)] at this
      obtain ⟨X0, hX0⟩ : ∃ X0, X0 = wr := ⟨_, rfl⟩
      rw [← hX0] at HS ⊢
      clear hi hil HK hX0
      obtain ⟨i0, hi, hz0, hz1, hz2⟩ := info_of infoI
      go_wp2_with fail
      go_loopw [10, 11] (fun x y wr => ∃ (z : Int) (pp : Nat) (A : List Int), y = .int .i64 z ∧ z = (i : Int) - 1 - pp ∧ pp ≤ i ∧ NumR X0.heap.size wr x A ∧ Below X0.heap.size X0 wr ∧ Hid ((l.reverse.take pp).foldl accV [] = A) ∧ A.length ≤ s) (fun _ y _ => (intOf y + 1).toNat)
      case atStart => exact ⟨_, 0, [], rfl, by omega, Nat.zero_le _, World.ownsRow_nil _ _ _ _, Below.refl _ _, rfl, Nat.zero_le _⟩
      case round =>
        obtain ⟨z, pp, A, rfl, hz, hpp, hA, hbX, hfold, hAs⟩ := hrel
        have HA : Hid (NumR X0.heap.size wr _ A) := hA
        obtain ⟨q, cq, rfl⟩ := Sl.owns_form hA
        have HB : Hid (Below X0.heap.size X0 wr) := hbX
        have HX : Hid (Mine w c s ls wr) := HS.out.next hbX
        have HF : Hid (_ = _) := hfold.out
        clear hfold hbX hA
        by_cases hcont : pp < i ∧ A.length < s
        · obtain ⟨h1, h2⟩ := hcont
          obtain ⟨j, hj⟩ : ∃ j : Nat, j + pp + 1 = i := ⟨i - 1 - pp, by omega⟩
          obtain rfl : z = (j : Int) := by omega
          obtain ⟨x0, hx0⟩ : ∃ x, l[j]? = some x := ⟨_, List.getElem?_eq_getElem (by have := HL.out; omega)⟩
          obtain ⟨bb, off, rfl, _, _, _⟩ := HR.out.get hx0
          have e1 : wr.cell? ⟨bb, off + j, none⟩ = some (.int .i64 x0) := by
            obtain ⟨_, _, e, _, _, h⟩ := (IntsR.below HR.out HX.out.below).get hx0
            cases e
            exact h
          have d1 : decide ((0 : Int) ≤ (j : Int)) = true := by simp
          have hAn : (A.length : Int) < n := by have := HN.out.1; omega
          have d2 : decide ((A.length : Int) < n) = true := by simpa using hAn
          have hji : (j : Int) < (i : Int) := by omega
          have hA20 : A.length ≤ 20 := by have := HN.out.2; omega
          have HJ : Hid (j + pp + 1 = i ∧ A.length < s) := ⟨hj, h2⟩
          have HX0 : Hid (l[j]? = some x0) := hx0
          have hstep : Hid ((l.reverse.take (pp + 1)).foldl accV [] = accV A x0) := by
            show _ = _
            rw [← show _ = A from HF.out]
            exact acc_step _ _ _ (rev_at (by have := HL.out; omega) hx0)
          obtain ⟨wo, hwo⟩ : ∃ wo, wo = wr := ⟨_, rfl⟩
          subst hwo
          obtain ⟨m, hm⟩ : ∃ m, A.length = m := ⟨_, rfl⟩
          have HM : Hid (A.length = m) := hm
          rw [hm] at hAn d2 hA20 ⊢
          clear hx0 h1 h2 hj hm hz hpp hAs HF
          go_wp2_with fail
          go_loopw [12, 13] (fun x y wr => ∃ k d : Nat, x = .bool (decide (x0 ∈ A.take k)) ∧ y = .int .i64 k ∧ k ≤ m ∧ wr = wo.drewN d) (fun _ y _ => m - (intOf y).toNat)
          case atStart => exact ⟨0, 0, by simp, rfl, Nat.zero_le _, rfl⟩
          case round =>
            obtain ⟨k, d, rfl, rfl, hk, hw⟩ := hrel
            have HW : Hid (wr = wo.drewN d) := hw
            by_cases hkm : k < m
            · have hlt2 : decide (k < m) = true := by simpa using hkm
              have hki : (k : Int) < (m : Int) := by omega
              obtain ⟨y0, hy0⟩ : ∃ y, A[k]? = some y := ⟨_, List.getElem?_eq_getElem (by have := HM.out; omega)⟩
              have htk : Hid (A.take (k + 1) = A.take k ++ [y0]) := by show _ = _; rw [List.take_add_one, hy0]; rfl
              have e2 : wr.cell? ⟨bb, off + j, none⟩ = some (.int .i64 x0) := by rw [hw]; exact e1
              have hA' := NumR.ints HA.out
              rw [show A.length = m from HM.out] at hA'
              obtain ⟨g, o, rfl, _, _, c1⟩ := hA'.get hy0
              have e3 : wr.cell? ⟨g, o + k, none⟩ = some (.int .i64 y0) := by rw [hw]; exact c1
              have hgo : Hid (k + 1 ≤ m) := hkm
              by_cases hb : x0 ∈ A.take k
              · have hb1 : decide (x0 ∈ A.take k) = true := by simpa using hb
                have hb2 : Hid (decide (x0 ∈ A.take (k + 1)) = true) := by show _ = true; rw [htk.out]; simp [hb]
                rw [hb1]
                clear hw hk hkm hy0 c1 hb hb1 hA' e1
                go_wp2_with fail
                go_quiet (fail)
                go_wp2
                go_roundw
                case rel => exact ⟨k + 1, _, by rw [hb2.out], by go_num, hgo.out, (by rw [HW.out]; exact drew_addL wo d _)⟩
                case measure => simp [intOf] <;> omega
              · have hb1 : decide (x0 ∈ A.take k) = false := by simpa using hb
                have hb2 : Hid (decide (x0 ∈ A.take (k + 1)) = (y0 == x0)) := by
                  show _ = _
                  rw [htk.out]
                  by_cases e : y0 = x0
                  · subst e; simp
                  · have e' : ¬ x0 = y0 := fun h => e h.symm
                    simp [hb, e, e']
                rw [hb1]
                clear hw hk hkm hy0 c1 hb hb1 hA' e1
                go_wp2_with fail
                go_quiet (fail)
                go_wp2
                go_roundw
                case rel => exact ⟨k + 1, _, by rw [hb2.out], by go_num, hgo.out, (by rw [HW.out]; exact drew_addL wo d _)⟩
                case measure => simp [intOf] <;> omega
            · have hlt2 : decide (k < m) = false := by simpa using hkm
              obtain rfl : k = m := by omega
              rw [List.take_of_length_le (by have := HM.out; omega)]
              have HW2 : Hid (wr = wo.drewN d) := hw
              clear hk hkm e1
              by_cases hb : x0 ∈ A
              · have hb1 : decide (x0 ∈ A) = true := by simpa using hb
                have hst : Hid ((l.reverse.take (pp + 1)).foldl accV [] = A) := by
                  show _ = _
                  rw [hstep.out]; unfold accV; rw [if_pos hb]
                rw [hb1]
                clear hb hb1 hw
                go_wp2
                go_roundw
                case rel =>
                  have := HJ.out
                  refine ⟨(j : Int) - 1, pp + 1, A, by go_num, by omega, by omega, ?_, ?_, hst, by omega⟩
                  · have h := HA.out
                    rw [show A.length = k from HM.out] at h
                    exact Sl.owns_same h (fun g _ => by rw [HW2.out]; rfl)
                  · rw [HW2.out]; exact Sl.below_drewN' HB.out d
                case measure => simp [intOf] <;> omega
              · have hb1 : decide (x0 ∈ A) = false := by simpa using hb
                have hst : Hid ((l.reverse.take (pp + 1)).foldl accV [] = A ++ [x0]) := by
                  show _ = _
                  rw [hstep.out]; unfold accV; rw [if_neg hb]
                have e2 : wr.cell? ⟨bb, off + j, none⟩ = some (.int .i64 x0) := by
                  rw [hw]
                  obtain ⟨_, _, e, _, _, h⟩ := (IntsR.below HR.out HX.out.below).get HX0.out
                  cases e
                  exact h
                have hr : NumR X0.heap.size wr (.slice q k cq) A := by
                  have h := HA.out
                  rw [show A.length = k from HM.out] at h
                  exact Sl.owns_same h (fun g _ => by rw [hw]; rfl)
                have hbw : Below X0.heap.size X0 wr := by rw [hw]; exact Sl.below_drewN' HB.out d
                have hbs := hbw.size
                have HBW : Hid (Below X0.heap.size X0 wr) := hbw
                have HAL : Hid (A.map (fun x => Value.int .i64 x) ++ [.int .i64 x0] = (A ++ [x0]).map (fun x => Value.int .i64 x)) := by show _ = _; simp
                unfold NumR at hr
                rw [show A.length = k from HM.out] at hr
                rw [hb1]
                generalize A.map (fun x => Value.int .i64 x) = fl at *
                clear hb hb1 hw hbw
                go_wp2_with (at_builtin; refine wpList_append_own_at _ rfl _ _ 33 rfl X0.heap.size 3 i0 (.int .i64 0) 1 8 Try.underlying33 hi hz0 hz1 hz2 rfl (by decide) (.slice q k cq) k fl rfl (hr.alloc _) ⟨wr.heap.size, 0, none⟩ 1 1 [.int .i64 x0] rfl rfl (one_newL _ _ _) (by simp [Value.oneCell']) (by unfold maxLen; omega) (by omega) (by simp; omega) ?_; intro v' w3 hown3 hgrow3 _hnil3 _hat3)
                go_roundw
                case rel =>
                  have := HJ.out
                  have hml := HM.out
                  refine ⟨(j : Int) - 1, pp + 1, A ++ [x0], by go_num, by omega, by omega, ?_, ?_, hst, by simp; omega⟩
                  · unfold NumR
                    rw [← HAL.out, show (A ++ [x0]).length = k + 1 by simp; exact hml]
                    exact hown3
                  · exact (HBW.out.alloc hbs _).grown hgrow3 (by simp; omega) (fun r e => (Sl.owns_lt hr e).1)
                case measure => simp [intOf] <;> omega
        · by_cases h1 : pp < i
          · have hAl : A.length = s := by omega
            have hfin : (ded l.reverse).take s = A := acc_end HF.out hAs (.inr hAl)
            have HFIN : Hid (_ = _) := hfin
            obtain ⟨j, hj⟩ : ∃ j : Nat, j + pp + 1 = i := ⟨i - 1 - pp, by omega⟩
            obtain rfl : z = (j : Int) := by omega
            have d1 : decide ((0 : Int) ≤ (j : Int)) = true := by simp
            have hAn : n ≤ (A.length : Int) := by have := HN.out.1; omega
            have d2 : decide ((A.length : Int) < n) = false := by simpa using hAn
            clear h1 hj hfin hAl
            clear hz hpp hAs hcont HF
            have hkk := keys_any c s ls wr HX.out.at_
            have HA2 : Hid (IntsR wr (.slice q A.length cq) A ∧ ∀ r, (Value.slice q A.length cq).ownBlock = some r → r < wr.heap.size) := ⟨NumR.ints HA.out, fun r hr => (Sl.owns_lt HA.out hr).2⟩
            generalize A.length = m at *
            go_wp2_with fail
            go_at_call 13
            refine Calls.mono hkk ?_
            clear hkk
            rintro e w7 ⟨v7, rfl, hr7, b7⟩
            have S7 := HX.out.next b7
            have i7 : IntsR w7 (.slice q m cq) A := HA2.out.1.kept (fun r hr => b7.block r (HA2.out.2 r hr))
            have hkA : keysV ls = A := HK2.out.trans HFIN.out
            have hs := same_yes v7 (.slice q m cq) A w7 (by rw [← hkA]; exact hr7.ints) i7
            obtain ⟨q7, c7, rfl⟩ := hr7.ints.len
            have H7 : Hid (Mine w c s ls w7) := S7
            clear S7 i7 hr7 b7 hkA
            go_wp2_with fail
            go_at_call 14
            refine Calls.mono hs ?_
            clear hs
            rintro e w8 ⟨rfl, b8⟩
            have S8 := H7.out.next b8
            clear b8
            go_wp2
            go_ret
            exact ⟨rfl, S8.below⟩
          · have hz1' : z = -1 := by omega
            have hfin : (ded l.reverse).take s = A := acc_end HF.out hAs (.inl (by have := HL.out; simp; omega))
            have HFIN : Hid (_ = _) := hfin
            subst hz1'
            clear h1 hfin
            clear hz hpp hAs hcont HF
            have hkk := keys_any c s ls wr HX.out.at_
            have HA2 : Hid (IntsR wr (.slice q A.length cq) A ∧ ∀ r, (Value.slice q A.length cq).ownBlock = some r → r < wr.heap.size) := ⟨NumR.ints HA.out, fun r hr => (Sl.owns_lt HA.out hr).2⟩
            generalize A.length = m at *
            go_wp2_with fail
            go_at_call 13
            refine Calls.mono hkk ?_
            clear hkk
            rintro e w7 ⟨v7, rfl, hr7, b7⟩
            have S7 := HX.out.next b7
            have i7 : IntsR w7 (.slice q m cq) A := HA2.out.1.kept (fun r hr => b7.block r (HA2.out.2 r hr))
            have hkA : keysV ls = A := HK2.out.trans HFIN.out
            have hs := same_yes v7 (.slice q m cq) A w7 (by rw [← hkA]; exact hr7.ints) i7
            obtain ⟨q7, c7, rfl⟩ := hr7.ints.len
            have H7 : Hid (Mine w c s ls w7) := S7
            clear S7 i7 hr7 b7 hkA
            go_wp2_with fail
            go_at_call 14
            refine Calls.mono hs ?_
            clear hs
            rintro e w8 ⟨rfl, b8⟩
            have S8 := H7.out.next b8
            clear b8
            go_wp2
            go_ret
            exact ⟨rfl, S8.below⟩


set_option maxRecDepth 100000 in
theorem lruLast_lifted (os : Os) (started : os.Started) (H : Type) (enc : TypeId × Value → H) :
    ReturnsInHanded {} Try.checked os 4 .any (Rows.lruLastSpec.pre6 enc Try.prog Try.f4 Rows.lruLastRow.domain false) (Rows.lruLastSpec.post enc Try.prog Try.f4 false true false false) := by
  refine returnsInHanded_of_change_sized (C := Try.checked) ownNone started (by kernel_rfl) Try.func4
    (ChangeSpec.witness6 (enc := enc) (C := Try.checked) false ⟨#[], #[.int .i64 0, .slice none 0 0], []⟩ 8 (by kernel_rfl) (by kernel_rfl) (by kernel_rfl) (by kernel_rfl)) ?_
  intro W base args ds gs before hval hW _ hsz0 _
  have hW' := hW
  obtain ⟨p, q, hA0, hV, rfl, hfz, hnd⟩ := hW
  have hA : DataW.TrodAll enc Try.prog W 0 (fun _ => true) true Try.f4.params.toList args.toList ds p := hA0
  rw [Try.params4] at hA hval hsz0
  obtain ⟨v0, vs0, d0, ds0, p0, q0, hargs, rfl, rfl, h0, r0⟩ := trodAll_cons hA
  obtain ⟨v1, vs1, d1, ds1, p1, q1, rfl, rfl, rfl, h1, r1⟩ := trodAll_cons r0
  obtain ⟨rfl, rfl, rfl⟩ := trodAll_nil r1
  obtain rfl : args = #[v0, v1] := by cases args; simp_all
  obtain ⟨rfl, rfl⟩ := trodVars_none hV
  obtain ⟨a0, rfl, rfl, rfl, w0⟩ := open_int Try.underlying3 (hval 0 3 v0 rfl rfl) h0
  obtain ⟨a1, len1, cap1, rfl⟩ := okWide_slice Try.underlying33 (hval 1 33 v1 rfl rfl)
  have k1 := h1
  have lt1 : ∀ x ∈ p1, x.block < W.heap.size := by obtain ⟨m, hm⟩ := k1; exact DataW.trod_lt m _ _ _ hm
  obtain ⟨z1, w1⟩ := intsAt_of_reads k1
  clear hA0
  refine (lruLast_walk W a0 w0 _ z1 w1).mono fun e W' ⟨he, bel⟩ => ?_
  subst he
  exact ⟨_, rfl, _, _, _, [], _, [], hW', trodAll_mk1 (shut_bool Try.underlying4 _), (trodAll_cons_mk (shut_int Try.underlying3 w0) (trodAll_cons_mk (Below.trod laidOut (by kernel_rfl) (of_decide_eq_true (by kernel_rfl)) k1 bel lt1) trodAll_mk0)), rfl, bel.frame _, fun h => by cases h⟩

theorem lruLast_said : Rows.LruLastSaid :=
  OpenClaim.holds_of_wide 4 Try.f4 rfl rfl rfl rfl rfl rfl rfl ⟨rfl, rfl, rfl, rfl, rfl⟩ rfl rfl rfl rfl rfl (by kernel_rfl) Try.func4 (by kernel_rfl)
    (of_decide_eq_true (by kernel_rfl)) (by unfold Func.isWrapper; first | (rw [if_pos (by decide +kernel)]; kernel_rfl) | (rw [if_neg (by decide +kernel)]; exact ⟨rfl, rfl⟩))
    (fun os started H enc _ => lruLast_lifted os started H enc)
#print axioms lruLast_said

end Go.Proofs.Ytamcomlnfdfmeaa
