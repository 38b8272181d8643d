/- package match: Selector and Compound at every tree, element and selector. -/
import Derived.Test.YtchfnnoabejlpaaMtGh
import Derived.Test.YtchfnnoabejlpaaMtGf
import Derived.Test.YtchfnnoabejlpaaMtGb
namespace Go.Proofs.Ytchfnnoabejlpaa.Mt
open Go.Proofs.Ytchfnnoabejlpaa.Tre
open Go Go.RowKit Dm

set_option maxRecDepth 100000 in
set_option maxHeartbeats 2000000 in
theorem isUpTo_any (E : Env) (HAT : ∀ a, AtOk a → AttrK E.w₀ E.es a) (hE : EnvOk E) (f : Nat) (HI : Deeper E f) (A : Nat) (s : Sel) (pv : Value) (k : Nat) (hk : k < s.length) (HU : 0 < k → UpToK E A f s pv (k - 1)) : UpToK E A f s pv k := by
  intro γ W hI hA e he
  have hc := isCompound_any E HAT hE f HI γ W hI A k s pv hA hk e he
  have HIV : Hid (Inv E γ W) := hI
  have HE : Hid (EnvOk E) := hE
  have HUU : Hid (0 < k → UpToK E A f s pv (k - 1)) := HU
  have HA : Hid (_ = _) := hA
  obtain ⟨R, hR⟩ : ∃ R, R = uptoV (anyV E.es f) E.es s k e := ⟨_, rfl⟩
  rw [← hR]
  have HR : Hid (_ = _) := hR
  clear hI hE HI HU hA HAT hR
  go_enter Try.func33, Try.ntmps33
  go_wp2_with fail
  refine hc.mono ?_
  clear hc
  rintro r X ⟨rfl, γ1, st1⟩
  have ST1 : Hid (Step E γ W γ1 X) := st1
  clear st1
  cases hcv : compV (anyV E.es f) E.es (partAt s k).2 e with
  | false =>
    have FIN : Hid (false = R) := by
      show _ = _
      rw [show R = _ from HR.out]
      cases k with
      | zero => unfold uptoV; exact hcv.symm
      | succ k => unfold uptoV; rw [hcv]; rfl
    clear hcv
    go_wp2
    go_ret
    exact ⟨by rw [← show false = _ from FIN.out]; rfl, γ1, ST1.out⟩
  | true =>
    rcases Nat.eq_zero_or_pos k with hk0 | hk0
    · subst hk0
      have FIN : Hid (true = R) := by
        show _ = _
        rw [show R = _ from HR.out]
        unfold uptoV
        exact hcv.symm
      clear hcv
      go_wp2
      go_ret
      exact ⟨by rw [← show true = _ from FIN.out]; rfl, γ1, ST1.out⟩
    · have ha := callsIn_wide.1 (isAhead_in E HE.out 1 (Nat.le_refl _) γ1 X ST1.out.inv A s pv f (ST1.out.mono HIV.out _ _ HA.out) k hk hk0 (HUU.out hk0) e he)
      have FIN : Hid ((aheadV E.es (partAt s k).1 e).any (uptoV (anyV E.es f) E.es s (k - 1)) = R) := by
        show _ = _
        rw [show R = _ from HR.out]
        obtain ⟨m, rfl⟩ : ∃ m, k = m + 1 := ⟨k - 1, by omega⟩
        show _ = (compV _ _ _ _ && _)
        rw [hcv, Bool.true_and]
        rfl
      have hk1 : ((k : Int) == 0) = false := by have : (k : Int) ≠ 0 := by omega
                                                simpa using this
      clear hcv
      go_wp2_with fail
      refine ha.mono ?_
      clear ha
      rintro r Y ⟨rfl, γ2, st2⟩
      have ST2 : Hid (Step E γ W γ2 Y) := ST1.out.trans st2
      clear st2
      go_wp2
      go_ret
      exact ⟨by rw [← show _ = R from FIN.out]; rfl, γ2, ST2.out⟩
theorem upTo_all (E : Env) (HAT : ∀ a, AtOk a → AttrK E.w₀ E.es a) (hE : EnvOk E) (f : Nat) (HI : Deeper E f) (A : Nat) (s : Sel) (pv : Value) : ∀ k, k < s.length → UpToK E A f s pv k
  | 0, h => isUpTo_any E HAT hE f HI A s pv 0 h (fun h => absurd h (Nat.lt_irrefl _))
  | k + 1, h => isUpTo_any E HAT hE f HI A s pv (k + 1) h (fun _ => upTo_all E HAT hE f HI A s pv k (by omega))

set_option maxRecDepth 100000 in
set_option maxHeartbeats 2000000 in
theorem is_step (E : Env) (HAT : ∀ a, AtOk a → AttrK E.w₀ E.es a) (hE : EnvOk E) (f : Nat) (HI : Deeper E f) : IsK E f := by
  intro γ W A s pv hI hA e he
  obtain ⟨⟨d, hP⟩, hfit, fv, lv, kA, _, _⟩ := hI.asked hA
  obtain ⟨pp, cp, rfl⟩ := RowT.len hP
  have hs50 := fits_len hfit
  obtain ⟨⟨c0, c1, _, _⟩, _⟩ := blk4 kA
  by_cases h0 : 0 < s.length
  · have hu := upTo_all E HAT hE f HI A s _ (s.length - 1) (by omega) γ W hI hA e he
    have hV : selV (anyV E.es f) E.es s e = uptoV (anyV E.es f) E.es s (s.length - 1) e := by unfold selV; rw [decide_eq_true h0, Bool.true_and]
    rw [hV]
    have hw1 : IntKind.i64.wrap ((s.length : Int) - 1) = ((s.length - 1 : Nat) : Int) := by rw [IntKind.wrap_i64]; omega
    have hp : (0 : Int) < (s.length : Int) := by omega
    clear hV hI hE HI HAT hA hP kA hfit
    go_enter Try.func26, Try.ntmps26
    go_wp2_with fail
    refine hu.mono ?_
    clear hu
    rintro r X ⟨rfl, hst⟩
    have HS : Hid _ := hst
    clear hst
    go_wp2
    go_ret
    exact ⟨rfl, HS.out⟩
  · have hV : selV (anyV E.es f) E.es s e = false := by unfold selV; rw [decide_eq_false h0]; rfl
    rw [hV]
    have hz : s.length = 0 := by omega
    have HS : Hid (Step E γ W γ W) := Step.refl hI
    rw [hz] at c1
    clear hV hI hE HI HAT hA hP kA hfit
    go_enter Try.func26, Try.ntmps26
    go_wp2
    go_ret
    exact ⟨rfl, γ, HS.out⟩
theorem is_all (E : Env) (HAT : ∀ a, AtOk a → AttrK E.w₀ E.es a) (hE : EnvOk E) : ∀ f, IsK E f
  | 0 => is_step E HAT hE 0 (fun _ h => by cases h)
  | f + 1 => is_step E HAT hE (f + 1) (fun f' h => by cases h; exact is_all E HAT hE f)

set_option maxRecDepth 100000 in
set_option maxHeartbeats 2000000 in
/-- match.Selector AT EVERY TREE, ELEMENT AND SELECTOR. -/
theorem selector_any (qs : List Em) (w : World) (HAT : ∀ a, AtOk a → AttrK w (qs.map Em.e) a) (b tb g cap : Nat) (hT : Tr b w tb g cap qs) (hO : TreeOk (qs.map Em.e)) (hl : qs.length ≤ 4096) (hN : ∀ q ∈ qs, NdOk q.e.nd) (e : Int) (d : Nat) (v : Value) (s : Sel) (hP : PartsAt d w.heap.size w v s) :
    Calls Try.prog 12 #[.pointer (some ⟨tb, 0, none⟩), .int .i64 e, .agg #[v]] w fun r w' => r = .returned (.bool (selectorV (qs.map Em.e) e s)) ∧ Below w.heap.size w w' := by
  obtain ⟨pp, cp, rfl⟩ := RowT.len hP
  obtain ⟨w1, hw1⟩ : ∃ w1, w.alloc (.cells #[.slice pp s.length cp] 25) = w1 := ⟨_, rfl⟩
  have b1 : Below w.heap.size w w1 := by rw [← hw1]; exact (Below.refl _ _).alloc (Nat.le_refl _) _
  have k1 : Blk w1 w.heap.size 25 [.slice pp s.length cp] := by rw [← hw1]; exact Blk.new w 25 _
  have c0 := (blk1 k1).1
  have hlen := len_any b tb g cap qs w1 (hT.next b1)
  have hel : (qs.map Em.e).length = qs.length := List.length_map ..
  unfold selectorV
  rw [hel]
  by_cases hin : 0 ≤ e ∧ e < (qs.length : Int)
  · rw [decide_eq_true hin, Bool.true_and]
    obtain ⟨k, rfl⟩ : ∃ k : Nat, e = (k : Int) := ⟨e.toNat, by omega⟩
    have hk : k < qs.length := by omega
    rw [Int.toNat_natCast]
    have hfi := fits_any d s (.slice pp s.length cp) w1 (hP.next b1)
    have hg1 : ¬ ((qs.length : Int) ≤ (k : Int)) := by omega
    have HT : Hid (Tr b w tb g cap qs) := hT
    have HO : Hid (TreeOk (qs.map Em.e)) := hO
    have HNN : Hid (∀ q ∈ qs, NdOk q.e.nd) := hN
    have HHT : Hid (∀ a, AtOk a → AttrK w (qs.map Em.e) a) := HAT
    have HP : Hid (PartsAt d w.heap.size w (.slice pp s.length cp) s) := hP
    have K1 : Hid (Blk w1 w.heap.size 25 [.slice pp s.length cp]) := k1
    obtain ⟨R, hR⟩ : ∃ R, R = (fitsV 8 s && selV (anyV (qs.map Em.e) 8) (qs.map Em.e) s k) := ⟨_, rfl⟩
    rw [← hR]
    have HR : Hid (_ = _) := hR
    have hn0 : ¬ ((k : Int) < 0) := by omega
    have hd0 : decide ((k : Int) < 0) = false := decide_eq_false hn0
    have hd1 : decide (qs.length ≤ k) = false := decide_eq_false (by omega)
    clear hT hO hN HAT hP k1 hin hel hR
    go_enter Try.func12, Try.ntmps12
    go_wp2_with fail
    refine hlen.mono ?_
    clear hlen
    rintro r X ⟨rfl, rfl⟩
    go_wp2_with fail
    refine hfi.mono ?_
    clear hfi
    rintro r Y ⟨rfl, bY⟩
    have bwY : Below w.heap.size w Y := below_next b1 bY
    have c0 := (blk1 (K1.out.next bY)).1
    cases hf : fitsV 8 s with
    | false =>
      have FIN : Hid (false = R) := by
        show _ = _
        rw [show R = _ from HR.out, hf]
        rfl
      clear hf
      go_wp2
      go_ret
      exact ⟨by rw [← show false = _ from FIN.out]; rfl, bwY⟩
    | true =>
      have HR2 : Hid (R = selV (anyV (qs.map Em.e) 8) (qs.map Em.e) s k) := by
        show _ = _
        rw [show R = _ from HR.out, hf, Bool.true_and]
      obtain ⟨Z, hZ⟩ : ∃ Z, Y.alloc (.cells #[.pointer (some ⟨tb, 0, none⟩), .slice pp s.length cp, .slice none 0 0, .map none] 73) = Z := ⟨_, rfl⟩
      have bZ : Below Y.heap.size Y Z := by rw [← hZ]; exact (Below.refl _ _).alloc (Nat.le_refl _) _
      have kZ : Blk Z Y.heap.size 73 [.pointer (some ⟨tb, 0, none⟩), .slice pp s.length cp, .slice none 0 0, .map none] := by rw [← hZ]; exact Blk.new Y 73 _
      have hE : EnvOk ⟨Y, b, tb, g, cap, qs⟩ := ⟨HT.out.next bwY, HO.out, hl, HNN.out⟩
      have hP2 : PartsAt d Y.heap.size Y (.slice pp s.length cp) s := HP.out.next bwY
      have inv0 : Inv ⟨Y, b, tb, g, cap, qs⟩ (fun _ => none) Y := ⟨Below.refl _ _, fun A r h => by cases h⟩
      have inv1 : Step ⟨Y, b, tb, g, cap, qs⟩ (fun _ => none) Y (addG (fun _ => none) Y.heap.size (.asked s (.slice pp s.length cp) 8)) Z := inv0.add (Nat.le_refl _) bZ kZ ⟨⟨d, hP2⟩, hf, _, _, rfl, .inl rfl, .inl rfl⟩
      have his := is_all ⟨Y, b, tb, g, cap, qs⟩ (fun a ha => (HHT.out a ha).next bwY) hE 8 _ Z Y.heap.size s (.slice pp s.length cp) inv1.inv (addG_same _ _ _) k hk
      have lowY : Hid (∀ (V : World) γ' X, Step ⟨Y, b, tb, g, cap, qs⟩ (addG (fun _ => none) Y.heap.size (.asked s (.slice pp s.length cp) 8)) V γ' X → Below w.heap.size w X) := fun _ γ' X st => below_next bwY st.inv.low
      have hes : (⟨Y, b, tb, g, cap, qs⟩ : Env).es = qs.map Em.e := rfl
      rw [hes] at his
      rw [← hZ] at his
      clear hf hE hP2 inv0 inv1 kZ bZ bY hes
      clear hZ
      go_wp2_with fail
      refine his.mono ?_
      clear his
      rintro r X ⟨rfl, γ', st⟩
      have FIN : Hid (Below w.heap.size w X) := lowY.out _ γ' X st
      clear st
      go_wp2
      go_ret
      exact ⟨by rw [show R = _ from HR2.out]; rfl, FIN.out⟩
  · rw [decide_eq_false hin, Bool.false_and]
    clear hT hO hN HAT hP k1 hel
    by_cases hneg : e < 0
    · clear hlen
      go_enter Try.func12, Try.ntmps12
      go_wp2
      go_ret
      exact ⟨rfl, b1⟩
    · have hge : (qs.length : Int) ≤ e := by omega
      clear hin
      go_enter Try.func12, Try.ntmps12
      go_wp2_with fail
      refine hlen.mono ?_
      clear hlen
      rintro r X ⟨rfl, rfl⟩
      go_wp2
      go_ret
      exact ⟨rfl, b1⟩

end Go.Proofs.Ytchfnnoabejlpaa.Mt
