/- The document's own reader of selectors: the number of a child (nth). -/
import Derived.Test.YtgjjedodbgimfaaSrGo
import Derived.Test.YtgjjedodbgimfaaDcLow
namespace Go.Proofs.Ytgjjedodbgimfaa.Sr
open Go.Proofs.Ytgjjedodbgimfaa.Tre
open Go Go.RowKit Sl

theorem infoPs : (Try.prog.info? 41).map (·.size) = some 4 := by kernel_rfl
theorem load_ps {w : World} {g : Nat} {a b c d : Value} (h : Blk w g 41 [a, b, c, d]) : (loadVar 41 ⟨g, 0, none⟩).run Try.prog w = .ok (.agg #[a, b, c, d]) w :=
  run_loadVar_row w g _ 41 #[a, b, c, d] (0, 0) _ h Try.underlying41 rfl infoPs
theorem blk4_set1 {W : World} {B : Nat} {t : TypeId} {a b c d : Value} (h : Blk W B t [a, b, c, d]) (u : Value) : Blk (W.setCell ⟨B, 1, none⟩ u) B t [a, u, c, d] := by
  unfold Blk at h ⊢
  simp [World.setCell, Array.getElem?_modify, h]
theorem blk4_set2 {W : World} {B : Nat} {t : TypeId} {a b c d : Value} (h : Blk W B t [a, b, c, d]) (u : Value) : Blk (W.setCell ⟨B, 2, none⟩ u) B t [a, b, u, d] := by
  unfold Blk at h ⊢
  simp [World.setCell, Array.getElem?_modify, h]
theorem Blk.other {W : World} {B : Nat} {t : TypeId} {cs : List Value} (h : Blk W B t cs) {C i : Nat} (hne : B ≠ C) (u : Value) : Blk (W.setCell ⟨C, i, none⟩ u) B t cs := h.kept (grown_set W C i u) (fun e => hne (by cases e; rfl))
theorem Pk.other {n₀ : Nat} {W : World} {R : Nat} {v : Value} {ts : List Bt} {a : Nat} {bad : Bool} {deep : Int} (h : Pk n₀ W R v ts a bad deep) {C i : Nat} (hne : R ≠ C) (hn : n₀ ≤ C) (u : Value) : Pk n₀ (W.setCell ⟨C, i, none⟩ u) R v ts a bad deep :=
  ⟨Blk.other h.blk hne u, h.toks.below ((Below.refl n₀ W).setCell (p := ⟨C, i, none⟩) hn _), h.low, h.least, h.most⟩
theorem Pk.other4 {n₀ : Nat} {W : World} {R : Nat} {v : Value} {ts : List Bt} {a : Nat} {bad : Bool} {deep : Int} (h : Pk n₀ W R v ts a bad deep) {C : Nat} (hne : R ≠ C) (hn : n₀ ≤ C) (x y z u : Value) : Pk n₀ (set4 W C x y z u) R v ts a bad deep := (((h.other hne hn x).other hne hn y).other hne hn z).other hne hn u
theorem But.fresh4 {R : Nat} {w W : World} (h : But R w W) {C : Nat} (hC : w.heap.size ≤ C) (x y z u : Value) : But R w (set4 W C x y z u) := (((h.fresh hC x).fresh hC y).fresh hC z).fresh hC u
theorem nth_bad {ts : List Bt} {a b : Nat} {T : Bt} (hdb : ts.drop b = dropW (ts.drop a)) (hTd : (ts.drop b = [] ∧ T = zeroT) ∨ (b < ts.length ∧ ts.drop b = T :: ts.drop (b + 1))) (h : abV T = none) : nthV (ts.drop a) = none := by
  unfold nthV
  rw [← hdb]
  rcases hTd with ⟨e, _⟩ | ⟨_, e⟩
  · rw [e]
  · rw [e]
    simp [h]
theorem real_of {ts : List Bt} {b : Nat} {T : Bt} {x : Int × Int} (hTd : (ts.drop b = [] ∧ T = zeroT) ∨ (b < ts.length ∧ ts.drop b = T :: ts.drop (b + 1))) (h : abV T = some x) : b < ts.length ∧ ts.drop b = T :: ts.drop (b + 1) := by
  rcases hTd with ⟨_, rfl⟩ | h2
  · exact absurd h (by simp [abV, zeroT])
  · exact h2
theorem nth_some {ts : List Bt} {a b c : Nat} {T : Bt} {x : Int × Int} (hdb : ts.drop b = dropW (ts.drop a)) (hr : ts.drop b = T :: ts.drop (b + 1)) (h : abV T = some x) (hc : ts.drop c = dropW (ts.drop (b + 1))) :
    nthV (ts.drop a) = if (at' ts c).kind = 17 then some (x.1, x.2, ts.drop (c + 1)) else none := by
  unfold nthV
  rw [← hdb, hr]
  simp only [h, Option.bind_some, ← hc]
  by_cases hl : c < ts.length
  · have e : ts.drop c = at' ts c :: ts.drop (c + 1) := by
      rw [List.drop_eq_getElem_cons hl, at', List.getElem?_eq_getElem hl]
      rfl
    rw [e]
  · rw [List.drop_eq_nil_of_le (by omega)]
    unfold at'
    rw [List.getElem?_eq_none (by omega)]
    rfl

set_option maxRecDepth 100000 in
set_option maxHeartbeats 2000000 in
theorem nth_any (n₀ R : Nat) (v : Value) (ts : List Bt) (a : Nat) (deep : Int) (w : World) (hP : Pk n₀ w R v ts a false deep) (ha : a ≤ ts.length) (ht : ∀ t ∈ ts, t.text.size ≤ maxLen ∧ -9223372036854775808 ≤ t.n ∧ t.n ≤ 9223372036854775807) :
    Calls Try.prog 58 #[.pointer (some ⟨R, 0, none⟩)] w fun e w' => ((∃ A B b, nthV (ts.drop a) = some (A, B, ts.drop b) ∧ a ≤ b ∧ b ≤ ts.length ∧ e = .returned (.agg #[.int .i64 6, .int .i64 A, .int .i64 B, .slice none 0 0]) ∧ Pk n₀ w' R v ts b false deep) ∨ (nthV (ts.drop a) = none ∧ (∃ A B, e = .returned (.agg #[.int .i64 6, .int .i64 A, .int .i64 B, .slice none 0 0])) ∧ ∃ b, a ≤ b ∧ b ≤ ts.length + 2 ∧ Pk n₀ w' R v ts b true deep)) ∧ But R w w' := by
  have hlm := hP.most
  have hR := hP.lt
  have b0 : Below w.heap.size w ((w.alloc (.cells #[.int .i64 0, .int .i64 0, .int .i64 0, .slice none 0 0] 41)).alloc (.cells #[.int .i64 6, .int .i64 0, .int .i64 0, .slice none 0 0] 41)) := ((Below.refl _ w).alloc (Nat.le_refl _) _).alloc (by rw [World.size_alloc]; omega) _
  have kZ : Blk ((w.alloc (.cells #[.int .i64 0, .int .i64 0, .int .i64 0, .slice none 0 0] 41)).alloc (.cells #[.int .i64 6, .int .i64 0, .int .i64 0, .slice none 0 0] 41)) w.heap.size 41 [.int .i64 0, .int .i64 0, .int .i64 0, .slice none 0 0] := (Blk.new w 41 [.int .i64 0, .int .i64 0, .int .i64 0, .slice none 0 0]).kept (World.grownBy_alloc _ _ none) (by simp)
  have kX : Blk ((w.alloc (.cells #[.int .i64 0, .int .i64 0, .int .i64 0, .slice none 0 0] 41)).alloc (.cells #[.int .i64 6, .int .i64 0, .int .i64 0, .slice none 0 0] 41)) (w.heap.size + 1) 41 [.int .i64 6, .int .i64 0, .int .i64 0, .slice none 0 0] := by
    have := Blk.new (w.alloc (.cells #[.int .i64 0, .int .i64 0, .int .i64 0, .slice none 0 0] 41)) 41 [.int .i64 6, .int .i64 0, .int .i64 0, .slice none 0 0]
    rwa [World.size_alloc] at this
  have hP2 := hP.below b0
  have hb02 : But R w _ := But.of_below b0
  go_enter Try.func58, Try.ntmps58
  go_upto_region 2 with fail
  generalize (w.alloc (.cells #[.int .i64 0, .int .i64 0, .int .i64 0, .slice none 0 0] 41)).alloc (.cells #[.int .i64 6, .int .i64 0, .int .i64 0, .slice none 0 0] 41) = W2 at *
  have h1 := white_any n₀ R v ts a false deep W2 hP2
  go_wp2_with fail
  refine h1.mono ?_
  clear h1
  rintro e w3 ⟨b, rfl, hab, hbl, hdb, hP3, hbut3⟩
  replace kZ := hbut3.blk kZ (by omega)
  replace kX := hbut3.blk kX (by omega)
  have hb03 := hb02.trans hbut3
  have hx3 : w.heap.size + 1 < w3.heap.size := kX.lt
  have hbl' : b ≤ ts.length := by omega
  have h2 := see_any n₀ R v ts b false deep 0 w3 hP3 (by omega)
  rw [Nat.add_zero] at h2
  have hTm : (at' ts b).text.size ≤ maxLen ∧ -9223372036854775808 ≤ (at' ts b).n ∧ (at' ts b).n ≤ 9223372036854775807 := by
    unfold at'
    cases h : ts[b]? with
    | none => decide
    | some t => exact ht t (List.mem_of_getElem? h)
  have hTd : (ts.drop b = [] ∧ at' ts b = zeroT) ∨ (b < ts.length ∧ ts.drop b = at' ts b :: ts.drop (b + 1)) := by
    by_cases h : b < ts.length
    · refine .inr ⟨h, ?_⟩
      rw [List.drop_eq_getElem_cons h, at', List.getElem?_eq_getElem h]
      rfl
    · exact .inl ⟨List.drop_eq_nil_of_le (by omega), by unfold at'; rw [List.getElem?_eq_none (by omega)]; rfl⟩
  generalize at' ts b = T at *
  unfold tkV at h2
  go_wp2_with fail
  refine h2.mono ?_
  clear h2
  rintro e w4 ⟨rfl, b4⟩
  have bT : Below w4.heap.size w4 (w4.alloc (.cells #[.int .i64 T.kind, .string T.text, .int .i64 T.n, .bool T.whole, .int .i64 T.c] 73)) := (Below.refl _ _).alloc (Nat.le_refl _) _
  have kT : Blk (w4.alloc (.cells #[.int .i64 T.kind, .string T.text, .int .i64 T.n, .bool T.whole, .int .i64 T.c] 73)) w4.heap.size 73 [.int .i64 T.kind, .string T.text, .int .i64 T.n, .bool T.whole, .int .i64 T.c] := Blk.new w4 73 _
  have b5 := below_next b4 bT
  replace kZ := kZ.below b5 kZ.lt
  replace kX := kX.below b5 kX.lt
  have hP5 := hP3.below b5
  have hb05 := hb03.trans (But.of_below b5)
  have hx4 : w.heap.size + 1 < w4.heap.size := Nat.lt_of_lt_of_le hx3 b4.size
  have hs4 : R < w4.heap.size := Nat.lt_of_lt_of_le hP3.lt b4.size
  go_upto_region 4 with fail
  generalize w4.alloc (.cells #[.int .i64 T.kind, .string T.text, .int .i64 T.n, .bool T.whole, .int .i64 T.c] 73) = w5 at *
  have hTR : w4.heap.size ≠ R := by omega
  generalize w4.heap.size = BT at *
  have hXR : w.heap.size + 1 ≠ R := by omega
  have hZR : w.heap.size ≠ R := by omega
  obtain ⟨⟨q0, q1, q2, q3⟩, g0, g1, g2, g3⟩ := blk4 hP5.blk
  have hw1 : IntKind.i64.wrap ((b : Int) + 1) = (b : Int) + 1 := by rw [IntKind.wrap_i64]; omega
  have hP6 := hP5.set (b := b + 1) (by omega)
  have hbs : But R w5 (w5.setCell ⟨R, 1, none⟩ (.int .i64 (b + 1 : Nat))) := But.set R w5 1 _
  have hb06 := hb05.trans hbs
  replace kZ := hbs.blk kZ hZR
  replace kX := hbs.blk kX hXR
  replace kT := hbs.blk kT hTR
  push_cast at hP6 hbs hb06 kZ kX kT
  go_upto_region 5 with fail
  generalize w5.setCell ⟨R, 1, none⟩ (.int .i64 ((b : Int) + 1)) = w6 at *
  clear q0 q1 q2 q3 g0 g1 g2 g3 hP5 hP3 hP2 hP b0 b4 bT b5 hbut3 hb02 hb03 hb05 hbs hw1
  obtain ⟨⟨t0, t1, t2, t3, t4⟩, _⟩ := blk5 kT
  have hlow := Lw.refLower_any T.text w6 hTm.1
  obtain ⟨low, hlw⟩ : ∃ low, Lw.low T.text.data.toList = low := ⟨_, rfl⟩
  rw [hlw] at hlow
  go_wp2_with fail
  refine hlow.mono ?_
  clear hlow t0 t1 t2 t3 t4
  rintro e w7 ⟨rfl, b7⟩
  replace kZ := kZ.below b7 kZ.lt
  replace kX := kX.below b7 kX.lt
  replace kT := kT.below b7 kT.lt
  have hP7 := hP6.below b7
  have hb07 := hb06.trans (But.of_below b7)
  obtain ⟨⟨t0, t1, t2, t3, t4⟩, _⟩ := blk5 kT
  obtain ⟨⟨x0, x1, x2, x3⟩, y0, y1, y2, y3⟩ := blk4 kX
  have hab : abV T = if T.kind = 1 ∧ low = oddT then some (2, 1) else if T.kind = 1 ∧ low = evenT then some (2, 0) else if T.kind = 6 ∧ T.whole = true then some (0, T.n.tdiv 1000) else none := by
    unfold abV lowOf
    simp only [hlw]
  have hdb' : ts.drop b = dropW (ts.drop a) := hdb
  clear hdb
  have hXw : w.heap.size ≤ w.heap.size + 1 := by omega
  have hnX : n₀ ≤ w.heap.size + 1 := by have := hP7.low; omega
  by_cases g1 : T.kind = 1 ∧ low = oddT
  case' pos =>
    rw [if_pos g1] at hab
    obtain ⟨gk, rfl⟩ := g1
    rw [gk] at t0
    have kX' := blk4_set2 (blk4_set1 kX (.int .i64 2)) (.int .i64 1)
    have kZ' := Blk.other (Blk.other kZ (show w.heap.size ≠ w.heap.size + 1 by omega) (i := 1) (.int .i64 2)) (show w.heap.size ≠ w.heap.size + 1 by omega) (i := 2) (.int .i64 1)
    have hPc := (hP7.other (show R ≠ w.heap.size + 1 by omega) hnX (i := 1) (.int .i64 2)).other (show R ≠ w.heap.size + 1 by omega) hnX (i := 2) (.int .i64 1)
    have hbc := (hb07.fresh hXw (i := 1) (.int .i64 2)).fresh hXw (i := 2) (.int .i64 1)
    unfold oddT
    clear kX kZ hP7 hb07
    go_upto_region 14 with fail
    generalize (w7.setCell ⟨w.heap.size + 1, 1, none⟩ (.int .i64 2)).setCell ⟨w.heap.size + 1, 2, none⟩ (.int .i64 1) = wc at *
  case' neg =>
    rw [if_neg g1] at hab
    have m1 : T.kind = 1 → ((⟨low.toArray⟩ : ByteArray).toList == [111, 100, 100]) = false := fun h => by
      rw [ByteArray.toList_eq, beq_eq_false_iff_ne]
      intro e
      exact g1 ⟨h, by simpa [oddT] using e⟩
    by_cases g2 : T.kind = 1 ∧ low = evenT
    case' pos =>
      rw [if_pos g2] at hab
      obtain ⟨gk, rfl⟩ := g2
      replace m1 := m1 gk
      rw [gk] at t0
      have kX' := blk4_set1 kX (.int .i64 2)
      have kZ' := Blk.other kZ (show w.heap.size ≠ w.heap.size + 1 by omega) (i := 1) (.int .i64 2)
      have hPc := hP7.other (show R ≠ w.heap.size + 1 by omega) hnX (i := 1) (.int .i64 2)
      have hbc := hb07.fresh hXw (i := 1) (.int .i64 2)
      unfold evenT at m1 ⊢
      clear kX kZ hP7 hb07 g1
      go_upto_region 14 with fail
      generalize w7.setCell ⟨w.heap.size + 1, 1, none⟩ (.int .i64 2) = wc at *
    case' neg =>
      rw [if_neg g2] at hab
      have m2 : T.kind = 1 → ((⟨low.toArray⟩ : ByteArray).toList == [101, 118, 101, 110]) = false := fun h => by
        rw [ByteArray.toList_eq, beq_eq_false_iff_ne]
        intro e
        exact g2 ⟨h, by simpa [evenT] using e⟩
      generalize (⟨low.toArray⟩ : ByteArray) = zl at *
      by_cases g3 : T.kind = 6 ∧ T.whole = true
      case' pos =>
        rw [if_pos g3] at hab
        obtain ⟨gk, gw⟩ := g3
        rw [gk] at t0
        rw [gw] at t3
        have hq : IntKind.i64.wrap (T.n.tdiv 1000) = T.n.tdiv 1000 := by
          have h1 := hTm.2.1
          have h2 := hTm.2.2
          have h3 : (T.n.tdiv 1000).natAbs = T.n.natAbs / 1000 := Int.natAbs_tdiv T.n 1000
          have h4 : T.n.natAbs / 1000 ≤ 9223372036854776 := by omega
          rw [← h3] at h4
          clear h3
          generalize T.n.tdiv 1000 = y at *
          rw [IntKind.wrap_i64]
          omega
        have kX' := blk4_set2 kX (.int .i64 (T.n.tdiv 1000))
        have kZ' := Blk.other kZ (show w.heap.size ≠ w.heap.size + 1 by omega) (i := 2) (.int .i64 (T.n.tdiv 1000))
        have hPc := hP7.other (show R ≠ w.heap.size + 1 by omega) hnX (i := 2) (.int .i64 (T.n.tdiv 1000))
        have hbc := hb07.fresh hXw (i := 2) (.int .i64 (T.n.tdiv 1000))
        clear kX kZ hP7 hb07 g1 g2 m1 m2
        go_upto_region 14 with fail
        generalize w7.setCell ⟨w.heap.size + 1, 2, none⟩ (.int .i64 (T.n.tdiv 1000)) = wc at *
      case' neg =>
        rw [if_neg g3] at hab
        have kX' := Blk.other kX (show w.heap.size + 1 ≠ R by omega) (i := 2) (.bool true)
        have kZ' := Blk.other kZ (show w.heap.size ≠ R by omega) (i := 2) (.bool true)
        have hPc := hP7.spoil true
        have hbc := hb07.trans (But.set R w7 2 (.bool true))
        obtain ⟨⟨r0, r1, r2, r3⟩, s0, s1, s2, s3⟩ := blk4 hP7.blk
        have hkk : (T.kind = 1) ∨ ((T.kind == 1) = false ∧ (T.kind == 6) = false) ∨ (T.kind = 6 ∧ T.whole = false) := by
          by_cases c1 : T.kind = 1
          · exact .inl c1
          · by_cases c6 : T.kind = 6
            · exact .inr (.inr ⟨c6, by simpa [c6] using g3⟩)
            · exact .inr (.inl ⟨by simpa using c1, by simpa using c6⟩)
        clear kX kZ hP7 hb07 g1 g2 g3
        rcases hkk with gk | ⟨e1, e6⟩ | ⟨gk, gw⟩
        case' inl =>
          rw [gk] at t0
          replace m1 := m1 gk
          replace m2 := m2 gk
        case' inr.inr =>
          rw [gk] at t0
          rw [gw] at t3
        case' inr.inl =>
          clear m1 m2
        all_goals
          go_upto_region 14 with fail
          generalize w7.setCell ⟨R, 2, none⟩ (.bool true) = wc at *
  all_goals
    clear t0 t1 t2 t3 t4 x0 x1 x2 x3 y0 y1 y2 y3 kT b7
    have h8 := white_any n₀ R v ts (b + 1) _ deep wc hPc
    go_wp2_with fail
    refine h8.mono ?_
    clear h8
    rintro e w8 ⟨c, rfl, hbc1, hcl, hdc, hP8, hbut8⟩
    have kX8 := hbut8.blk kX' (show w.heap.size + 1 ≠ R by omega)
    have kZ8 := hbut8.blk kZ' (show w.heap.size ≠ R by omega)
    have hb08 := hbc.trans hbut8
    clear kX' kZ' hPc hbc hbut8
    have h9 := see_any n₀ R v ts c _ deep 0 w8 hP8 (by omega)
    rw [Nat.add_zero] at h9
    obtain ⟨E, hE⟩ : ∃ E, at' ts c = E := ⟨_, rfl⟩
    rw [hE] at h9
    unfold tkV at h9
    go_wp2_with fail
    refine h9.mono ?_
    clear h9
    rintro e w9 ⟨rfl, b9⟩
    have hf0 := tkField0 E.kind E.text E.n E.whole E.c w9
    have kX9 := kX8.below b9 kX8.lt
    have kZ9 := kZ8.below b9 kZ8.lt
    have hP9 := hP8.below b9
    have hb09 := hb08.trans (But.of_below b9)
    clear kX8 kZ8 hP8 hb08
    obtain ⟨⟨r0, r1, r2, r3⟩, s0, s1, s2, s3⟩ := blk4 hP9.blk
    have hw2 : IntKind.i64.wrap ((c : Int) + 1) = (c : Int) + 1 := by rw [IntKind.wrap_i64]; omega
    have hnZ : n₀ ≤ w.heap.size := by have := hP9.low; omega
    by_cases h17 : E.kind = 17
    · have hc17 : c < ts.length := by
        by_cases hl : c < ts.length
        · exact hl
        · have h0 := h17
          rw [← hE, at', List.getElem?_eq_none (by omega)] at h0
          cases h0
      rw [h17] at hf0
      have kXd := Blk.other kX9 (show w.heap.size + 1 ≠ R by omega) (i := 1) (.int .i64 ((c : Int) + 1))
      have kZd := Blk.other kZ9 (show w.heap.size ≠ R by omega) (i := 1) (.int .i64 ((c : Int) + 1))
      have hPd := hP9.set (b := c + 1) (by omega)
      push_cast at hPd
      have hbd := hb09.trans (But.set R w9 1 (.int .i64 ((c : Int) + 1)))
      rw [h17]
      clear kX9 kZ9 hP9 hb09
      go_upto_region 18 with fail
      generalize w9.setCell ⟨R, 1, none⟩ (.int .i64 ((c : Int) + 1)) = wd at *
      obtain ⟨⟨x0, x1, x2, x3⟩, _⟩ := blk4 kXd
      obtain ⟨⟨z0, z1, z2, z3⟩, y0, y1, y2, y3⟩ := blk4 kZd
      clear r0 r1 r2 r3 s0 s1 s2 s3
      go_wp2
      refine bodyPost_ret (results_struct rfl _ _ w.heap.size _ rfl (load_ps (blk_set4 kZd _ _ _ _))) rfl ?_
      have hcl2 : c ≤ ts.length + 1 := by omega
      first
      | exact ⟨.inl ⟨_, _, c + 1, by rw [nth_some hdb' (real_of hTd hab).2 hab hdc, hE, if_pos h17], by omega, by omega, rfl, hPd.other4 (by omega) hnZ _ _ _ _⟩, But.fresh4 hbd (Nat.le_refl _) _ _ _ _⟩
      | exact ⟨.inr ⟨nth_bad hdb' hTd hab, ⟨_, _, rfl⟩, c + 1, by omega, by omega, hPd.other4 (by omega) hnZ _ _ _ _⟩, But.fresh4 hbd (Nat.le_refl _) _ _ _ _⟩
    · have e17 : (E.kind != 17) = true := by simpa using h17
      have kXd := Blk.other (Blk.other kX9 (show w.heap.size + 1 ≠ R by omega) (i := 2) (.bool true)) (show w.heap.size + 1 ≠ R by omega) (i := 1) (.int .i64 ((c : Int) + 1))
      have kZd := Blk.other (Blk.other kZ9 (show w.heap.size ≠ R by omega) (i := 2) (.bool true)) (show w.heap.size ≠ R by omega) (i := 1) (.int .i64 ((c : Int) + 1))
      have hPd := (hP9.spoil true).set (b := c + 1) (by omega)
      push_cast at hPd
      have hbd := (hb09.trans (But.set R w9 2 (.bool true))).trans (But.set R _ 1 (.int .i64 ((c : Int) + 1)))
      have hnone : nthV (ts.drop a) = none := by
        first
        | exact nth_bad hdb' hTd hab
        | rw [nth_some hdb' (real_of hTd hab).2 hab hdc, hE, if_neg h17]
      clear kX9 kZ9 hP9 hb09 h17
      go_upto_region 18 with fail
      generalize (w9.setCell ⟨R, 2, none⟩ (.bool true)).setCell ⟨R, 1, none⟩ (.int .i64 ((c : Int) + 1)) = wd at *
      obtain ⟨⟨x0, x1, x2, x3⟩, _⟩ := blk4 kXd
      obtain ⟨⟨z0, z1, z2, z3⟩, y0, y1, y2, y3⟩ := blk4 kZd
      clear r0 r1 r2 r3 s0 s1 s2 s3
      go_wp2
      refine bodyPost_ret (results_struct rfl _ _ w.heap.size _ rfl (load_ps (blk_set4 kZd _ _ _ _))) rfl ?_
      exact ⟨.inr ⟨hnone, ⟨_, _, rfl⟩, c + 1, by omega, by omega, hPd.other4 (by omega) hnZ _ _ _ _⟩, But.fresh4 hbd (Nat.le_refl _) _ _ _ _⟩

end Go.Proofs.Ytgjjedodbgimfaa.Sr
