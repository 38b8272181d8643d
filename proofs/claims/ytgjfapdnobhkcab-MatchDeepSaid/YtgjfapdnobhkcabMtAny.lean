/- package match: isAny, where 'is' is known of what stands one list deeper. -/
import Derived.Test.YtgjfapdnobhkcabMtListC
namespace Go.Proofs.Ytgjfapdnobhkcab.Mt
open Go Go.RowKit Dm

/-- What 'is' answers of those that may have lists so deep. -/
def IsK (E : Env) (f : Nat) : Prop := ∀ (γ : Ghost) (W : World) (A : Nat) (s : Sel) (pv : Value), Inv E γ W → γ A = some (.asked s pv f) → ∀ e : Nat, e < E.qs.length →
  Calls Try.prog 30 #[.pointer (some ⟨A, 0, none⟩), .int .i64 e] W fun r W' => r = .returned (.bool (selV (anyV E.es f) E.es s e)) ∧ ∃ γ', Step E γ W γ' W'

/-- The row of those that are asked at a spot. -/
theorem ptrs_get {E : Env} {γ : Ghost} {W : World} (hI : Inv E γ W) {A B k j : Nat} {s : Sel} {pv : Value} {f' : Nat} {p : Pt} {q : Ps} (hA : γ A = some (.asked s pv (f' + 1))) (hB : γ B = some (.ptrs A k j)) (hp : s[k]? = some p) (hq : p.2.pss[j]? = some q) {i : Nat} {x : Sel} (hx : q.list[i]? = some x) :
    ∃ b pv', W.cell? ⟨B, i, none⟩ = some (.pointer (some ⟨b, 0, none⟩)) ∧ γ b = some (.asked x pv' f') := by
  obtain ⟨_, o, ho, s', pv', f1, hA', p', q', f2, hp', hq', hf, bs, rfl, hl, he⟩ := hI.each B _ hB
  rw [hA] at hA'
  cases hA'
  rw [hp] at hp'
  cases hp'
  rw [hq] at hq'
  cases hq'
  obtain rfl : f2 = f' := by omega
  have hi : i < bs.length := by rw [hl]; exact (List.getElem?_eq_some_iff.1 hx).1
  obtain ⟨pv2, hγ⟩ := he i _ x (List.getElem?_eq_getElem hi) hx
  have kB : Blk W B 96 (bs.map ptrV) := ho
  exact ⟨bs[i], pv2, (cell_row kB (by rw [List.getElem?_map, List.getElem?_eq_getElem hi]; rfl)).1, hγ⟩

set_option maxRecDepth 100000 in
theorem isAny1_any (E : Env) (f : Nat) (HI : IsK E f) (γ : Ghost) (W : World) (A : Nat) (s : Sel) (pv : Value) (hI : Inv E γ W) (hA : γ A = some (.asked s pv f)) (e : Nat) (he : e < E.qs.length) (Bx : Nat) (hc : W.cell? ⟨Bx, 0, none⟩ = some (.int .i64 e)) :
    Calls Try.prog 80 #[.pointer (some ⟨A, 0, none⟩), .pointer (some ⟨Bx, 0, none⟩)] W fun r W' => r = .returned (.bool (selV (anyV E.es f) E.es s e)) ∧ ∃ γ', Step E γ W γ' W' := by
  have h := HI γ W A s pv hI hA e he
  clear HI hI hA
  go_enter Try.func80, Try.ntmps80
  go_wp2_with fail
  refine h.mono ?_
  clear h
  rintro r W' ⟨rfl, hst⟩
  have HS : Hid _ := hst
  clear hst
  go_wp2
  go_ret
  exact ⟨rfl, HS.out⟩

set_option maxRecDepth 100000 in
set_option maxHeartbeats 4000000 in
theorem indexAsk_any (E : Env) (f' : Nat) (HI : IsK E f') (γ : Ghost) (W : World) (hI : Inv E γ W) (A B k j : Nat) (s : Sel) (pv : Value) (p : Pt) (q : Ps) (hA : γ A = some (.asked s pv (f' + 1))) (hB : γ B = some (.ptrs A k j)) (hp : s[k]? = some p) (hq : p.2.pss[j]? = some q) (hql : q.list.length ≤ 8796093022208)
    (e : Nat) (he : e < E.qs.length) (Bx : Nat) (hx : Boxed W Bx 3 (.int .i64 e)) (hxn : γ Bx = none) :
    Calls Try.prog 96 #[.slice (some ⟨B, 0, none⟩) q.list.length q.list.length, .func (.func 80) #[] #[.pointer (some ⟨Bx, 0, none⟩)]] W fun r W' => (∃ i : Int, r = .returned (.int .i64 i) ∧ decide (0 ≤ i) = anyV E.es (f' + 1) q.list e) ∧ ∃ γ', Step E γ W γ' W' := by
  have H0 : Hid (Step E γ W γ W) := Step.refl hI
  have HII : Hid (IsK E f') := HI
  have HIV : Hid (Inv E γ W) := hI
  have HA : Hid (_ = _) := hA
  have HB : Hid (_ = _) := hB
  have HX : Hid (Boxed W Bx 3 (.int .i64 e)) := hx
  have HXN : Hid (_ = _) := hxn
  clear HI hI hA hB hx hxn
  go_enter Try.func96, Try.ntmps96
  go_wp2
  go_loopw [8] (fun y wr => ∃ (i : Nat) (γi : Ghost), y = .int .i64 i ∧ i ≤ q.list.length ∧ (q.list.take i).any (fun s => selV (anyV E.es f') E.es s e) = false ∧ Step E γ W γi wr) (fun y _ => q.list.length - (intOf y).toNat)
  case atStart => exact ⟨0, γ, rfl, Nat.zero_le _, rfl, H0.out⟩
  case round =>
    obtain ⟨i, γi, rfl, hi, hno, hst⟩ := hrel
    have HST : Hid _ := hst
    have HNO : Hid (_ = _) := hno
    clear hno
    by_cases hlt : i < q.list.length
    · obtain ⟨x, hx⟩ : ∃ x, q.list[i]? = some x := ⟨_, List.getElem?_eq_getElem hlt⟩
      obtain ⟨b, pv', c0, hb⟩ := ptrs_get hst.inv (hst.mono HIV.out _ _ HA.out) (hst.mono HIV.out _ _ HB.out) hp hq hx
      have cx := Boxed.cell (show Boxed wr Bx 3 _ from (hst.block _ HX.out.lt HXN.out).trans HX.out)
      have h := isAny1_any E f' HII.out γi wr b x pv' hst.inv hb e he Bx cx
      have hii : (i : Int) < (q.list.length : Int) := by omega
      have HXX : Hid (_ = _) := hx
      clear hst hb cx hx
      go_wp2_with fail
      refine h.mono ?_
      clear h c0
      rintro r W' ⟨rfl, γ', hst'⟩
      have HS2 : Hid (Step E γ W γ' W') := HST.out.trans hst'
      clear hst'
      cases hv : selV (anyV E.es f') E.es x e with
      | true =>
        have FIN : Hid (decide ((0 : Int) ≤ (i : Int)) = anyV E.es (f' + 1) q.list e) := by
          show _ = _
          rw [decide_eq_true (by omega)]
          symm
          show q.list.any _ = true
          rw [List.any_eq_true]
          exact ⟨x, List.mem_of_getElem? HXX.out, hv⟩
        clear hv
        go_wp2
        go_ret
        exact ⟨⟨i, rfl, FIN.out⟩, γ', HS2.out⟩
      | false =>
        have FIN : Hid ((q.list.take (i + 1)).any (fun s => selV (anyV E.es f') E.es s e) = false) := by
          show _ = _
          rw [List.take_add_one, show q.list[i]? = some x from HXX.out, List.any_append, show (q.list.take i).any _ = false from HNO.out]
          simp [hv]
        clear hv
        go_wp2
        go_roundw
        case rel => exact ⟨i + 1, γ', rfl, by omega, FIN.out, HS2.out⟩
        case measure => simp [intOf]; omega
    · have hii : ¬ ((i : Int) < (q.list.length : Int)) := by omega
      obtain rfl : i = q.list.length := by omega
      have FIN : Hid (decide ((0 : Int) ≤ (-1 : Int)) = anyV E.es (f' + 1) q.list e) := by
        have h := HNO.out
        rw [List.take_length] at h
        show _ = q.list.any _
        rw [show q.list.any _ = false from h]
        rfl
      clear hst
      go_wp2
      go_ret
      exact ⟨⟨-1, rfl, FIN.out⟩, γi, HST.out⟩

set_option maxRecDepth 100000 in
set_option maxHeartbeats 4000000 in
theorem isAny_any (E : Env) (hE : EnvOk E) (f' : Nat) (HI : IsK E f') (γ : Ghost) (W : World) (hI : Inv E γ W) (A k j : Nat) (s : Sel) (pv : Value) (p : Pt) (q : Ps) (hA : γ A = some (.asked s pv (f' + 1))) (hp : s[k]? = some p) (hq : p.2.pss[j]? = some q) (hls : listed q = true) (hj : j < 1099511627776) (hql : q.list.length ≤ 8796093022208)
    (d : Nat) (pl : Option Addr) (cl : Nat) (hS : SelsAt d E.n₀ E.w₀ (.slice pl q.list.length cl) q.list) (e : Nat) (he : e < E.qs.length) :
    Calls Try.prog 69 #[.pointer (some ⟨A, 0, none⟩), .agg #[.int .i64 k, .int .i64 j], .slice pl q.list.length cl, .int .i64 e] W fun r W' => r = .returned (.bool (anyV E.es (f' + 1) q.list e)) ∧ ∃ γ', Step E γ W γ' W' := by
  obtain ⟨w2, hw2⟩ : ∃ w2, (W.alloc (.cells #[.int .i64 k, .int .i64 j] 110)).alloc (.cells #[.int .i64 e] 3) = w2 := ⟨_, rfl⟩
  have b2 : Below W.heap.size W w2 := by rw [← hw2]; exact ((Below.refl _ W).alloc (Nat.le_refl _) _).alloc (by simp) _
  have st2 := hI.step b2
  have sp2 : Blk w2 W.heap.size 110 [.int .i64 k, .int .i64 j] := by rw [← hw2]; exact blk_alloc (Blk.new W 110 _) _
  have ex2 : Boxed w2 (W.heap.size + 1) 3 (.int .i64 e) := by
    rw [← hw2]
    have := Boxed.new (W.alloc (.cells #[.int .i64 k, .int .i64 j] 110)) 3 (.int .i64 e)
    rwa [World.size_alloc] at this
  have hl := list_any E hE γ w2 st2.inv A s pv (f' + 1) hA k j p q hp hq hls hj hql d _ hS
  obtain ⟨⟨d0, d1⟩, _⟩ := blk2 sp2
  have ST2 : Hid _ := st2
  have EX2 : Hid (Boxed w2 (W.heap.size + 1) 3 (.int .i64 e)) := ex2
  have HA : Hid (_ = _) := hA
  have HIV : Hid (Inv E γ W) := hI
  have HII : Hid (IsK E f') := HI
  have hxn : Hid (γ (W.heap.size + 1) = none) := hI.new (by omega)
  unfold wide at hl
  clear st2 ex2 hA hI HI hE hS sp2
  go_enter Try.func69, Try.ntmps69
  go_wp2_with fail
  refine hl.mono ?_
  clear hl
  rintro r X ⟨B, γ1, rfl, hB, st⟩
  have hx1 : Boxed X (W.heap.size + 1) 3 (.int .i64 e) := (st.block _ EX2.out.lt hxn.out).trans EX2.out
  have hi := indexAsk_any E f' HII.out γ1 X st.inv A B k j s pv p q (st.mono ST2.out.inv _ _ HA.out) hB hp hq hql e he (W.heap.size + 1) hx1 (st.none EX2.out.lt hxn.out)
  have HS1 : Hid (Step E γ W γ1 X) := ST2.out.trans st
  have hcf : Calls Try.prog 78 #[.slice (some ⟨B, 0, none⟩) q.list.length q.list.length, .func (.func 80) #[] #[.pointer (some ⟨W.heap.size + 1, 0, none⟩)]] X fun r W' => r = .returned (.bool (anyV E.es (f' + 1) q.list e)) ∧ ∃ γ', Step E γ1 X γ' W' := by
    clear hw2 d0 d1 hB st hx1 HS1 ST2 EX2 hxn
    go_enter Try.func78, Try.ntmps78
    go_wp2_with fail
    refine hi.mono ?_
    clear hi
    rintro r W' ⟨⟨i, rfl, hi⟩, hst⟩
    have HS : Hid _ := hst
    have HH : Hid (_ = _) := hi
    clear hst hi
    go_wp2
    go_ret
    exact ⟨by rw [← show decide (0 ≤ i) = _ from HH.out]; rfl, HS.out⟩
  clear hi hB st hx1 d0 d1
  go_wp2_with fail
  refine hcf.mono ?_
  clear hcf
  rintro r W' ⟨rfl, γ2, st2⟩
  have HS2 : Hid (Step E γ W γ2 W') := HS1.out.trans st2
  clear st2
  go_wp2
  go_ret
  exact ⟨rfl, γ2, HS2.out⟩

end Go.Proofs.Ytgjfapdnobhkcab.Mt
