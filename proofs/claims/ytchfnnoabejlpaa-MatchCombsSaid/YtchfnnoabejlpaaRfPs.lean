/- The document's own matching (tapestrierref9): pseudo-classes, given what lists answer. -/
import Derived.Test.YtchfnnoabejlpaaRfTree
import Derived.Test.YtchfnnoabejlpaaRfAttr
import Derived.Test.YtchfnnoabejlpaaWgGa
namespace Go.Proofs.Ytchfnnoabejlpaa.Rf
open Go Go.RowKit Go.Shelf Sl Wg Go.Proofs.Ytchfnnoabejlpaa.Tre
open Dm (El parentV placeV childrenV)

/-! ### what is asked of selectors beside their place in memory -/
def okA (c : Cp) : Prop := (∀ a ∈ c.attrs, a.text.size ≤ 1099511627776) ∧ ∀ q ∈ c.pss, i64 q.a ∧ i64 q.b
def okS : Nat → Sel → Prop
  | 0, s => ∀ p ∈ s, okA p.2
  | d + 1, s => ∀ p ∈ s, okA p.2 ∧ ∀ q ∈ p.2.pss, ∀ s' ∈ q.list, okS d s'
def okC (d : Nat) (c : Cp) : Prop := okA c ∧ match d with
  | 0 => True
  | d + 1 => ∀ q ∈ c.pss, ∀ s' ∈ q.list, okS d s'
theorem okS_c {d : Nat} {s : Sel} (h : okS d s) {p : Pt} (hp : p ∈ s) : okC d p.2 := by
  cases d with
  | zero => exact ⟨h p hp, trivial⟩
  | succ d => exact h p hp

/-- What any(e, l, deep) answers. -/
def AnyOK (d : Nat) : Prop := ∀ (T : TE) (l : List Sel) (v : Value) (k : Nat) (w : World), T.At w → k < T.es.length → SelsR (d + 1) w.heap.size w v l → (∀ s ∈ l, deepS d s = false) → (∀ s ∈ l, okS d s) →
  Calls Try.prog 54 #[T.p, .int .i64 k, v, .int .i64 (8 - (d : Int))] w fun e w' => e = .returned (.bool (Mt.anyV T.es (d + 1) l k)) ∧ Below w.heap.size w w'
/-- What is asked of a pseudo-class's list. -/
def LsOk (d : Nat) (q : Ps) : Prop := isList q = true → ∃ d', d = d' + 1 ∧ (∀ s ∈ q.list, deepS d' s = false) ∧ ∀ s ∈ q.list, okS d' s
theorem row_in (p a b : Int) : rowV p a b = Mt.inRowV p a b := rfl
theorem place_few {T : TE} {w : World} (hT : T.At w) {k : Nat} (hk : k < T.es.length) : 0 ≤ placeV T.es (k : Int) ∧ placeV T.es (k : Int) ≤ 4294967296 := by
  have hl := hT.len
  by_cases h0 : k = 0
  · subst h0
    obtain ⟨q, hq⟩ : ∃ q, T.es[0]? = some q := ⟨_, List.getElem?_eq_getElem hk⟩
    have h1 := (hT.ok.root q hq).2.2
    unfold placeV
    rw [Dm.elAt_yes hq]
    simp [h1]
  · obtain ⟨p, hp, hpk⟩ := Dm.par_lt hT.ok hk (by omega)
    have h1 := Dm.place_kids hT.ok hk hp
    have h2 := Dm.kids_len T.es p k
    omega
theorem root_iff {T : TE} {w : World} (hT : T.At w) {k : Nat} (hk : k < T.es.length) : decide (parentV T.es (k : Int) = -1) = ((k : Int) == 0) := by
  by_cases h0 : k = 0
  · subst h0
    rw [Dm.par_root hT.ok hk]; rfl
  · obtain ⟨p, hp, hpk⟩ := Dm.par_lt hT.ok hk (by omega)
    rw [hp, decide_eq_false (by omega)]
    symm
    rw [beq_eq_false_iff_ne]
    omega

set_option maxRecDepth 100000 in
set_option maxHeartbeats 4000000 in
theorem pseudo_any (d : Nat) (hd : d ≤ 8) (H : ∀ d', d = d' + 1 → AnyOK d') (T : TE) (q : Ps) (v : Value) (k : Nat) (w : World) (hT : T.At w) (hk : k < T.es.length) (hv : SelsR d w.heap.size w v q.list) (hls : LsOk d q) (ha : i64 q.a) (hb : i64 q.b) :
    Calls Try.prog 37 #[T.p, .int .i64 k, .agg #[.int .i64 q.kind, .int .i64 q.a, .int .i64 q.b, v], .int .i64 (8 - (d : Int))] w fun e w' => e = .returned (.bool (Mt.pseudoV (Mt.anyV T.es d) T.es q k)) ∧ Below w.heap.size w w' := by
  obtain ⟨pv, mv, cv, rfl⟩ := hv.form
  obtain ⟨V, hV⟩ : ∃ V, Mt.pseudoV (Mt.anyV T.es d) T.es q k = V := ⟨_, rfl⟩
  rw [hV]
  unfold Mt.pseudoV Mt.placedV Mt.firstV at hV
  obtain ⟨w1, hw1⟩ : ∃ w1, w.alloc (.cells #[.int .i64 q.kind, .int .i64 q.a, .int .i64 q.b, .slice pv mv cv] 56) = w1 := ⟨_, rfl⟩
  have b1 : Below w.heap.size w w1 := by rw [← hw1]; exact (Below.refl _ w).alloc (Nat.le_refl _) _
  have k1 : Blk w1 w.heap.size 56 [.int .i64 q.kind, .int .i64 q.a, .int .i64 q.b, .slice pv mv cv] := by rw [← hw1]; exact Blk.new w _ _
  obtain ⟨⟨c0, c1, c2, c3⟩, _⟩ := blk4 k1
  have hT1 := hT.next b1
  have s1 : w.heap.size < w1.heap.size := k1.lt
  have KP : Hid (Blk w1 w.heap.size 56 [.int .i64 q.kind, .int .i64 q.a, .int .i64 q.b, .slice pv mv cv]) := k1
  obtain ⟨D, hD⟩ : ∃ D : Int, 8 - (d : Int) = D := ⟨_, rfl⟩
  rw [hD]
  clear k1
  by_cases o1 : q.kind = 1
  · rw [o1, if_neg (by decide), if_neg (by decide), if_pos rfl, root_iff hT hk] at hV
    have p1 : (q.kind == 1) = true := by rw [o1]; rfl
    subst hV
    clear hT hT1 hv hls H o1 hD c1 c2 c3
    go_enter Try.func37, Try.ntmps37
    go_wp2
    go_ret
    exact ⟨rfl, b1⟩
  have p1 : (q.kind == 1) = false := by simpa using o1
  by_cases o2 : q.kind = 2
  · rw [o2, if_neg (by decide), if_neg (by decide), if_neg (by decide), if_pos rfl] at hV
    have p2 : (q.kind == 2) = true := by rw [o2]; rfl
    have hpl := place_any T k w1 hT1
    have hV2 : (placeV T.es (k : Int) == 1) = V := by rw [← hV]; rfl
    generalize placeV T.es (k : Int) = P at *
    subst hV2
    clear hT hT1 hv hls H o1 o2 hD c1 c2 c3 hV
    go_enter Try.func37, Try.ntmps37
    go_wp2_with fail
    go_at_call 50
    refine Calls.mono hpl ?_
    clear hpl hw1
    rintro x w2 ⟨rfl, n, hw2⟩
    have B2 : Below w.heap.size w w2 := by rw [hw2]; exact below_drewN' b1 n
    clear hw2
    go_wp2
    go_ret
    exact ⟨rfl, B2⟩
  have p2 : (q.kind == 2) = false := by simpa using o2
  by_cases o3 : q.kind = 3
  · rw [o3, if_neg (by decide), if_neg (by decide), if_neg (by decide), if_neg (by decide), if_pos rfl] at hV
    have p3 : (q.kind == 3) = true := by rw [o3]; rfl
    have hpl := last_any T k w1 hT1 hk
    rw [hV] at hpl
    clear hT hT1 hv hls H o1 o2 o3 hD c1 c2 c3 hV
    go_enter Try.func37, Try.ntmps37
    go_wp2_with fail
    go_at_call 51
    refine Calls.mono hpl ?_
    clear hpl hw1
    rintro x w2 ⟨rfl, n, hw2⟩
    have B2 : Below w.heap.size w w2 := by rw [hw2]; exact below_drewN' b1 n
    clear hw2
    go_wp2
    go_ret
    exact ⟨rfl, B2⟩
  have p3 : (q.kind == 3) = false := by simpa using o3
  by_cases o4 : q.kind = 4
  · rw [o4, if_neg (by decide), if_neg (by decide), if_neg (by decide), if_neg (by decide), if_neg (by decide), if_pos rfl] at hV
    have p4 : (q.kind == 4) = true := by rw [o4]; rfl
    have hpl := place_any T k w1 hT1
    have HLS : Hid (∀ X, Below w1.heap.size w1 X → Calls Try.prog 51 #[T.p, .int .i64 k] X fun x w' => x = .returned (.bool (Mt.lastV T.es k)) ∧ ∃ n, w' = X.drewN n) := fun X hX => last_any T k X (hT1.next hX) hk
    generalize placeV T.es (k : Int) = P at *
    generalize Mt.lastV T.es k = LV at *
    clear hT hT1 hv hls H o1 o2 o3 o4 hD c1 c2 c3
    by_cases hP : P = 1
    · rw [decide_eq_true hP, Bool.true_and] at hV
      subst hV
      subst hP
      go_enter Try.func37, Try.ntmps37
      go_wp2_with fail
      go_at_call 50
      refine Calls.mono hpl ?_
      clear hpl hw1
      rintro x w2 ⟨rfl, n, hw2⟩
      have q2 : Below w1.heap.size w1 w2 := by rw [hw2]; exact below_drawn w1 n
      have hl2 := HLS.out w2 q2
      clear hw2
      go_wp2_with fail
      go_at_call 51
      refine Calls.mono hl2 ?_
      clear hl2
      rintro x w3 ⟨rfl, m, hw3⟩
      have B3 : Below w.heap.size w w3 := by rw [hw3]; exact below_drewN' (below_next b1 q2) m
      clear hw3 q2
      go_wp2
      go_ret
      exact ⟨rfl, B3⟩
    · rw [decide_eq_false hP, Bool.false_and] at hV
      subst hV
      have hPb : (P == 1) = false := by simpa using hP
      clear hP
      go_enter Try.func37, Try.ntmps37
      go_wp2_with fail
      go_at_call 50
      refine Calls.mono hpl ?_
      clear hpl hw1
      rintro x w2 ⟨rfl, n, hw2⟩
      have B2 : Below w.heap.size w w2 := by rw [hw2]; exact below_drewN' b1 n
      clear hw2
      go_wp2
      go_ret
      exact ⟨rfl, B2⟩
  have p4 : (q.kind == 4) = false := by simpa using o4
  by_cases o5 : q.kind = 5
  · rw [o5, if_neg (by decide), if_neg (by decide), if_neg (by decide), if_neg (by decide), if_neg (by decide), if_neg (by decide), if_pos rfl] at hV
    have p5 : (q.kind == 5) = true := by rw [o5]; rfl
    have hpl := children_any T k w1 hT1
    have hV2 : (((childrenV T.es (k : Int)).length : Int) == 0) = V := by
      rw [← hV, Bool.eq_iff_iff]
      simp
    have HLN : Hid (∀ l : List Nat, (Dm.chI l).length = l.length) := fun l => by unfold Dm.chI; simp
    generalize childrenV T.es (k : Int) = C at *
    subst hV2
    clear hT hT1 hv hls H o1 o2 o3 o4 o5 hD c1 c2 c3 hV
    go_enter Try.func37, Try.ntmps37
    go_wp2_with fail
    go_at_call 52
    refine Calls.mono hpl ?_
    clear hpl hw1
    rintro x w2 ⟨v', rfl, hr, b2⟩
    have B2 := below_next b1 b2
    unfold Dm.IntRow at hr
    rw [HLN.out] at hr
    obtain ⟨p', c', rfl⟩ := owns_form hr
    clear hr b2
    go_wp2
    go_ret
    exact ⟨rfl, B2⟩
  have p5 : (q.kind == 5) = false := by simpa using o5
  by_cases o6 : q.kind = 6
  · rw [o6, if_neg (by decide), if_neg (by decide), if_neg (by decide), if_neg (by decide), if_neg (by decide), if_neg (by decide), if_neg (by decide), if_pos rfl] at hV
    have p6 : (q.kind == 6) = true := by rw [o6]; rfl
    have HPL : Hid (∀ X, Below w1.heap.size w1 X → Calls Try.prog 50 #[T.p, .int .i64 k] X fun x w' => x = .returned (.int .i64 (placeV T.es k)) ∧ ∃ n, w' = X.drewN n) := fun X hX => place_any T k X (hT1.next hX)
    have hpf := place_few hT hk
    rw [← row_in] at hV
    have HN : Hid (∀ X, Calls Try.prog 53 #[.int .i64 (placeV T.es k), .int .i64 q.a, .int .i64 q.b] X fun e w' => e = .returned (.bool V) ∧ w' = X) := fun X => by
      rw [← hV]
      exact nth_any _ _ _ hpf ha hb X
    have HSt : Hid (∀ X, Below w1.heap.size w1 X → X.cell? ⟨w.heap.size, 1, none⟩ = some (.int .i64 q.a) ∧ X.cell? ⟨w.heap.size, 2, none⟩ = some (.int .i64 q.b)) := fun X hX => ⟨(blk4 (KP.out.below hX s1)).1.2.1, (blk4 (KP.out.below hX s1)).1.2.2.1⟩
    generalize placeV T.es (k : Int) = P at *
    clear hT hT1 hv hls H o1 o2 o3 o4 o5 o6 hD c1 c2 c3 hV hpf
    go_enter Try.func37, Try.ntmps37
    go_upto_region 13 with fail
    first | rw [hw1] | skip
    clear hw1
    refine Rg.wpD_begin [0, 1, 2, 3, 4, 5, 6] (fun X => X.cell? ⟨w.heap.size, 1, none⟩ = some (.int .i64 q.a) ∧ X.cell? ⟨w.heap.size, 2, none⟩ = some (.int .i64 q.b)) (by kernel_rfl) ?_
    have q0 : Below w1.heap.size w1 w1.drew := below_drew (Below.refl _ _)
    have HeldS := HSt.out _ q0
    refine Rg.wpD_load 0 (v := ?_) (by simp only [List.getElem?_toArray, List.getElem?_cons_zero]; rfl) (by kernel_rfl) (by kernel_rfl) (by intro _ _ _ h; exact h) HeldS (by rfl) (fun wz hz => ?_) ?_
    rotate_left
    · first | (go_simp; done) | (go_simp; with_reducible rfl)
    simp only [Act.put, List.setIfInBounds_toArray, List.set_cons_succ, List.set_cons_zero]
    refine Rg.wpD_load 1 (v := ?_) (by simp only [List.getElem?_toArray, List.getElem?_cons_succ, List.getElem?_cons_zero]; rfl) (by kernel_rfl) (by kernel_rfl) (by intro _ _ _ h; exact h) HeldS (by rfl) (fun wz hz => ?_) ?_
    rotate_left
    · first | (go_simp; done) | (go_simp; with_reducible rfl)
    simp only [Act.put, List.setIfInBounds_toArray, List.set_cons_succ, List.set_cons_zero]
    refine Rg.wpD_load 3 (v := ?_) (by simp only [List.getElem?_toArray, List.getElem?_cons_succ, List.getElem?_cons_zero]; rfl) (by kernel_rfl) (by kernel_rfl) (by intro _ _ _ h; exact h) HeldS (by rfl) (fun wz hz => ?_) ?_
    rotate_left
    · first | (go_simp; done) | (go_simp; with_reducible rfl)
    simp only [Act.put, List.setIfInBounds_toArray, List.set_cons_succ, List.set_cons_zero]
    refine Rg.wpD_load 4 (v := ?_) (by simp only [List.getElem?_toArray, List.getElem?_cons_succ, List.getElem?_cons_zero]; rfl) (by kernel_rfl) (by kernel_rfl) (by intro _ _ _ h; exact h) HeldS (by rfl) (fun wz hz => ?_) ?_
    rotate_left
    · first | (go_simp; done) | (go_simp; with_reducible rfl)
    simp only [Act.put, List.setIfInBounds_toArray, List.set_cons_succ, List.set_cons_zero]
    refine Rg.wpD_load 5 (v := ?_) (by simp only [List.getElem?_toArray, List.getElem?_cons_succ, List.getElem?_cons_zero]; rfl) (by kernel_rfl) (by kernel_rfl) (by intro _ _ _ h; exact h) HeldS (by rfl) (fun wz hz => ?_) ?_
    rotate_left
    · first | (go_simp; done) | (go_simp; with_reducible rfl)
    simp only [Act.put, List.setIfInBounds_toArray, List.set_cons_succ, List.set_cons_zero]
    refine Rg.wpD_load 6 (v := ?_) (by simp only [List.getElem?_toArray, List.getElem?_cons_succ, List.getElem?_cons_zero]; rfl) (by kernel_rfl) (by kernel_rfl) (by intro _ _ _ h; exact h) HeldS (by rfl) (fun wz hz => ?_) ?_
    rotate_left
    · first | (go_simp; done) | (go_simp; with_reducible rfl)
    simp only [Act.put, List.setIfInBounds_toArray, List.set_cons_succ, List.set_cons_zero]
    refine Rg.wpD_do 2 (by kernel_rfl) (by simp only [List.getElem?_toArray, List.getElem?_cons_succ, List.getElem?_cons_zero]; rfl) (fun K hK => ?_)
    go_simp
    go_at_call 50
    refine Calls.mono (HPL.out _ q0) ?_
    rintro x w2 ⟨rfl, n, hw2⟩
    have q2 : Below w1.heap.size w1 w2 := by rw [hw2]; exact below_drewN' q0 n
    clear hw2
    refine hK _ _ (fun _ => HSt.out _ q2) ?_
    clear hK K HeldS
    refine Rg.wpD_do 7 (by kernel_rfl) (by simp only [List.getElem?_toArray, List.getElem?_cons_succ, List.getElem?_cons_zero]; rfl) (fun K hK => ?_)
    go_simp
    go_at_call 53
    refine Calls.mono (HN.out _) ?_
    rintro x w3 ⟨rfl, hww⟩
    obtain rfl := hww
    refine hK _ _ (fun h => absurd h (by decide)) ?_
    clear hK K
    refine Rg.wpD_pure 8 (v := ?_) (by simp only [List.getElem?_toArray, List.getElem?_cons_succ, List.getElem?_cons_zero]; rfl) (by kernel_rfl) (by kernel_rfl) (by intro _ _ _ h; exact h) (by rfl) (fun wz => ?_) ?_
    rotate_left
    · first | (go_simp; done) | (go_simp; with_reducible rfl)
    simp only [Act.put, List.setIfInBounds_toArray, List.set_cons_succ, List.set_cons_zero]
    refine Rg.wpD_done (by kernel_rfl) ?_
    have B3 := below_next b1 q2
    clear q0 q2 HN HPL HSt
    go_wp2
    go_ret
    exact ⟨rfl, B3⟩
  have p6 : (q.kind == 6) = false := by simpa using o6
  by_cases hl : isList q = true
  · obtain ⟨d', rfl, hdp, hok⟩ := hls hl
    have hany := H d' rfl T q.list _ k w1 hT1 hk (hv.next b1) hdp hok
    have hD1 : IntKind.i64.wrap (D + 1) = 8 - (d' : Int) := by rw [IntKind.wrap_i64]; omega
    have c0' : ∀ X, Below w1.heap.size w1 X → X.cell? ⟨w.heap.size, 0, none⟩ = some (.int .i64 q.kind) := fun X hX => (blk4 (KP.out.below hX s1)).1.1
    have HC0 : Hid (∀ X, Below w1.heap.size w1 X → X.cell? ⟨w.heap.size, 0, none⟩ = some (.int .i64 q.kind)) := c0'
    generalize Mt.anyV T.es (d' + 1) q.list k = AV at *
    clear hT hT1 hv hls H o1 o2 o3 o4 o5 o6 hD c1 c2 hdp hok c0'
    by_cases o7 : q.kind = 7
    · rw [o7, if_pos rfl] at hV
      have p7 : (q.kind == 7) = true := by rw [o7]; rfl
      have p8 : (q.kind == 8) = false := by rw [o7]; rfl
      have hV2 : (AV == false) = V := by rw [← hV]; cases AV <;> rfl
      clear o7 hV
      go_enter Try.func37, Try.ntmps37
      go_wp2_with fail
      go_at_call 54
      refine Calls.mono hany ?_
      clear hany hw1 c0 c3
      rintro x w2 ⟨rfl, b2⟩
      have c0 := HC0.out w2 b2
      have B2 := below_next b1 b2
      cases AV <;> subst hV2 <;> go_wp2 <;> go_ret <;> exact ⟨rfl, B2⟩
    · have p7 : (q.kind == 7) = false := by simpa using o7
      have o8 : q.kind = 8 := by
        unfold isList at hl
        simp [o7] at hl
        exact hl
      rw [o8, if_neg (by decide), if_pos rfl] at hV
      have p8 : (q.kind == 8) = true := by rw [o8]; rfl
      have hV2 : (AV == true) = V := by rw [← hV]; cases AV <;> rfl
      clear o7 o8 hV hl
      go_enter Try.func37, Try.ntmps37
      go_wp2_with fail
      go_at_call 54
      refine Calls.mono hany ?_
      clear hany hw1 c0 c3
      rintro x w2 ⟨rfl, b2⟩
      have c0 := HC0.out w2 b2
      have B2 := below_next b1 b2
      cases AV <;> subst hV2 <;> go_wp2 <;> go_ret <;> exact ⟨rfl, B2⟩
  · have o7 : ¬ q.kind = 7 := fun h => hl (by unfold isList; rw [h]; rfl)
    have o8 : ¬ q.kind = 8 := fun h => hl (by unfold isList; rw [h]; rfl)
    rw [if_neg o7, if_neg o8, if_neg o1, if_neg o2, if_neg o3, if_neg o4, if_neg o5, if_neg o6] at hV
    subst hV
    have p7 : (q.kind == 7) = false := by simpa using o7
    have p8 : (q.kind == 8) = false := by simpa using o8
    clear hT hT1 hv hls H o1 o2 o3 o4 o5 o6 o7 o8 hl hD c1 c2 c3
    go_enter Try.func37, Try.ntmps37
    go_wp2
    go_ret
    exact ⟨rfl, b1⟩

end Go.Proofs.Ytchfnnoabejlpaa.Rf
