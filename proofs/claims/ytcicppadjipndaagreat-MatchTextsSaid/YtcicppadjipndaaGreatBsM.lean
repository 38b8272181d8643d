/- The document's own Num at every string that is not too long. -/
import Derived.Test.YtcicppadjipndaaGreatBsI
import Derived.Test.YtcicppadjipndaaGreatBsL
import Derived.Deep.CutBlock
import Derived.Deep.DeepCutAuto
namespace Go.Proofs.YtcicppadjipndaaGreat.Nm
open Go Go.RowKit

theorem refNum_long (s : ByteArray) (w : World) (hs : s.size ≤ 4000000) :
    Calls Tryz.prog 75 #[.string s] w fun e w' => e = .returned (.tuple #[.int .i64 (numN s.data.toList), .bool (numOk s.data.toList)]) ∧ w' = w := by
  cases h : s.data.toList with
  | nil => rw [← h]; exact refNum_none s w hs h
  | cons c r =>
    by_cases h1 : c = 45
    · subst h1
      rw [← h]
      exact refNum_less s w hs r h
    · by_cases h2 : c = 43
      · subst h2
        rw [← h]
        exact refNum_plus s w hs r h
      · rw [← h]
        exact refNum_bare s w hs c r h h2 h1

end Go.Proofs.YtcicppadjipndaaGreat.Nm

/- The document's own reader: numbers. -/
namespace Go.Proofs.YtcicppadjipndaaGreat.Ref
open Go Go.RowKit Go.Shelf

/-- The number of a number's text. -/
def nv (t : List Int) : Int := Nm.numN (encs t)

/-- Where a number is read: the text so far, what is ahead, the result's block as it was laid. -/
structure Ns (w : World) (n₀ R : Nat) (raw : List Int) (v : Value) (t l : List Int) (X : World) : Prop where
  row : Row (w.heap.size + 1) X v t
  at' : At n₀ X R raw l
  grown : w.grownBy X (some R)
  size : w.heap.size + 1 ≤ X.heap.size
  five : Five X w.heap.size (.int .i64 0) (.string ⟨#[]⟩) (.int .i64 0) (.bool false) (.int .i64 0)
  low : R < w.heap.size
theorem Ns.kept {w : World} {n₀ R : Nat} {raw : List Int} {v : Value} {t l : List Int} {X Y : World} (h : Ns w n₀ R raw v t l X) (g : X.grownBy Y none) : Ns w n₀ R raw v t l Y :=
  ⟨h.row.far (grown_but g (some R)) (by have := h.low; omega), h.at'.kept g, h.grown.trans (grown_but g _), Nat.le_trans h.size g.size, h.five.kept g (by simp), h.low⟩
theorem Ns.step {w : World} {n₀ R : Nat} {raw : List Int} {v : Value} {t l : List Int} {c : Int} {X : World} (h : Ns w n₀ R raw v t (c :: l) X) : ∃ a : Nat, X.cell? ⟨R, 1, none⟩ = some (.int .i64 a) ∧ X.frozen? ⟨R, 1, none⟩ = false ∧ (a : Int) ≤ 1000002 ∧
    ∀ u, u = .int .i64 ((a : Int) + 1) → Ns w n₀ R raw v t l (X.setCell ⟨R, 1, none⟩ u) := by
  obtain ⟨a, h1, h2, h3, h4⟩ := h.at'.step
  have := h.low
  refine ⟨a, h1, h2, h3, fun u e => ?_⟩
  obtain ⟨k, g⟩ := h4 u e
  exact ⟨h.row.far g (by omega), k, h.grown.trans g, Nat.le_trans h.size g.size, h.five.kept g (by simp; omega), h.low⟩
theorem Ns.put {w : World} {n₀ R : Nat} {raw : List Int} {v : Value} {t l : List Int} {X : World} (h : Ns w n₀ R raw v t l X) (c : Int) (hl : t.length ≤ 1000000) :
    Calls Tryz.prog 74 #[v, .int .i64 c] X fun e w' => ∃ v', e = .returned v' ∧ Ns w n₀ R raw v' (t ++ [c]) l w' := by
  have := h.low
  refine (h.row.put c hl h.size (by omega) h.at').mono ?_
  rintro e w' ⟨v', rfl, k1, k2, k3, k4, k5⟩
  exact ⟨v', rfl, k1, k2, k3 w (by omega) h.grown, Nat.le_trans h.size k4, (k5 _ (by omega)).trans h.five, h.low⟩
/-- A row that has grown by itself. -/
theorem Ns.more {w : World} {n₀ R : Nat} {raw : List Int} {v v' : Value} {t t' l : List Int} {X Y : World} {o : Obj} (h : Ns w n₀ R raw v t l X) (hg : (X.alloc o).grownBy Y v.ownBlock) (hr : Row (w.heap.size + 1) Y v' t') : Ns w n₀ R raw v' t' l Y := by
  have hlow := h.low
  have far : ∀ j, v.ownBlock = some j → w.heap.size + 1 ≤ j := fun j e => (World.ownsRow.lt h.row j e).1
  refine ⟨hr, (h.at'.kept (World.grownBy_alloc X o none)).kept_far hg (fun j e => by have := far j e; omega), ?_, ?_, ?_, hlow⟩
  · exact (h.grown.trans (World.grownBy_alloc X o _)).andThen hg (fun j e => .inl (by have := far j e; omega))
  · have h1 := hg.size
    have h2 := h.size
    rw [World.size_alloc] at h1
    omega
  · exact (h.five.kept (World.grownBy_alloc X o none) (by simp)).kept hg (fun e => by have := far _ e.symm; omega)

theorem sgn_yes {l : List Int} (h : (see l 0 == 43 || see l 0 == 45) = true) : ∃ c r, l = c :: r ∧ sgn l = [c] ∧ unsign l = r := by
  cases l with
  | nil => exact absurd h (by decide)
  | cons c r => exact ⟨c, r, rfl, by unfold sgn; rw [if_pos h]; rfl, by unfold unsign; rw [if_pos h]; rfl⟩
theorem sgn_no {l : List Int} (h : (see l 0 == 43 || see l 0 == 45) = false) : sgn l = [] ∧ unsign l = l := by
  unfold sgn unsign
  rw [h]
  exact ⟨rfl, rfl⟩
theorem sgn_len (l : List Int) : (sgn l).length + (unsign l).length = l.length := by
  cases h : (see l 0 == 43 || see l 0 == 45) with
  | true =>
    obtain ⟨c, r, rfl, e1, e2⟩ := sgn_yes h
    rw [e1, e2]
    simp
    omega
  | false =>
    obtain ⟨e1, e2⟩ := sgn_no h
    rw [e1, e2]
    simp
theorem enc1_dot : enc1 46 = [46] := by decide +kernel
theorem takeWhile_stop {l : List Int} (h : isDigit (see l 0) = false) : l.takeWhile isDigit = [] ∧ l.dropWhile isDigit = l := by
  cases l with
  | nil => exact ⟨rfl, rfl⟩
  | cons c r =>
    rw [see_zero] at h
    exact ⟨by rw [List.takeWhile_cons, h]; rfl, by rw [List.dropWhile_cons, h]; rfl⟩
theorem takeWhile_more {c : Int} {r : List Int} (h : isDigit c = true) : (c :: r).takeWhile isDigit = c :: r.takeWhile isDigit ∧ (c :: r).dropWhile isDigit = r.dropWhile isDigit :=
  ⟨by rw [List.takeWhile_cons, if_pos h], by rw [List.dropWhile_cons, if_pos h]⟩
theorem isDigit_some {l : List Int} (h : isDigit (see l 0) = true) : ∃ c r, l = c :: r := List.exists_cons_of_ne_nil (fun e => by rw [e] at h; exact absurd h (by decide))

set_option maxRecDepth 100000 in
set_option maxHeartbeats 4000000 in
theorem numeric_any {w : World} {n₀ R : Nat} {raw l : List Int} (h : At n₀ w R raw l) :
    Calls Tryz.prog 51 #[.pointer (some ⟨R, 0, none⟩)] w fun e w' => e = .returned (tkV (numeric nv l).1) ∧ At n₀ w' R raw (numeric nv l).2 ∧ w.grownBy w' (some R) := by
  have hR := h.lt
  have hlen := h.len
  obtain ⟨T, L, hTL⟩ : ∃ T L, numeric nv l = (T, L) := ⟨_, _, rfl⟩
  have HT : Hid (numeric nv l = (T, L)) := hTL
  rw [hTL]
  clear hTL
  have hN : Ns w n₀ R raw (.slice none 0 0) [] l (w.alloc (.cells #[.int .i64 0, .string ⟨#[]⟩, .int .i64 0, .bool false, .int .i64 0] 105)) :=
    ⟨Row.none _ _, h.kept (World.grownBy_alloc _ _ _), World.grownBy_alloc _ _ _, by simp, Five.new _ _ _ _ _ _, hR⟩
  clear h
  go_enter Tryz.func51, Tryz.ntmps51
  go_upto_region 3 with fail
  generalize World.alloc w _ = w0 at *
  have s0 := see0 hN.at'
  go_cut [15] (fun b wx => b = .bool (see l 0 == 43 || see l 0 == 45) ∧ w0.grownBy wx none)
  case first =>
    generalize see l 0 = c at *
    by_cases h1 : c = 43
    · subst h1
      go_wp2_with fail
      refine (s0 _ (World.grownBy.refl _ _)).mono ?_
      rintro e w1 ⟨rfl, g1⟩
      go_wp2
      go_meet
      exact ⟨rfl, g1⟩
    · have h1' : (c == 43) = false := by simpa using h1
      go_wp2_with fail
      refine (s0 _ (World.grownBy.refl _ _)).mono ?_
      rintro e w1 ⟨rfl, g1⟩
      go_wp2_with fail
      refine (s0 _ g1).mono ?_
      rintro e w2 ⟨rfl, g2⟩
      go_wp2
      go_meet
      exact ⟨by rw [h1', Bool.false_or], g2⟩
  case rest =>
    obtain ⟨rfl, g1⟩ := hcut
    rename World => w1
    replace hN := hN.kept g1
    clear s0 g1
    have y1 := fun e => sgn_yes (l := l) e
    have y2 := fun e => sgn_no (l := l) e
    have hsl := sgn_len l
    generalize (see l 0 == 43 || see l 0 == 45) = s at *
    go_upto_if 15 with fail
    go_cut [3] (fun x wx => ∃ v, v = x ∧ Ns w n₀ R raw v (sgn l) (unsign l) wx)
    case first =>
      cases s with
      | true =>
        obtain ⟨c, r, rfl, e1, e2⟩ := y1 rfl
        have s0 := see0 hN.at'
        rw [see_zero] at s0
        clear y1 y2
        go_wp2_with fail
        refine (s0 _ (World.grownBy.refl _ _)).mono ?_
        rintro e w2 ⟨rfl, g2⟩
        have hput := (hN.kept g2).put c (by simp)
        go_wp2_with fail
        refine hput.mono ?_
        clear hput
        rintro e w3 ⟨v3, rfl, N3⟩
        obtain ⟨a, ca, fa, ha, hst⟩ := N3.step
        go_wp2
        have N4 := hst _ rfl
        go_meet
        exact ⟨_, rfl, by rw [e1, e2]; exact N4⟩
      | false =>
        obtain ⟨e1, e2⟩ := y2 rfl
        clear y1 y2
        go_wp2
        go_meet
        exact ⟨_, rfl, by rw [e1, e2]; exact hN⟩
    case rest =>
      clear hN y1 y2
      obtain ⟨v, rfl, hN⟩ := hcut
      rename World => w2
      obtain ⟨T1, hT1⟩ : ∃ T1, sgn l ++ (unsign l).takeWhile isDigit = T1 := ⟨_, rfl⟩
      obtain ⟨L1, hL1⟩ : ∃ L1, (unsign l).dropWhile isDigit = L1 := ⟨_, rfl⟩
      have hlen1 : T1.length + L1.length ≤ 1000000 := by
        have e := congrArg List.length (List.takeWhile_append_dropWhile (p := isDigit) (l := unsign l))
        rw [List.length_append] at e
        rw [← hT1, ← hL1, List.length_append]
        omega
      have HN : Hid (numText l = if pointed L1 = true then (T1 ++ 46 :: L1.tail.takeWhile isDigit, L1.tail.dropWhile isDigit, false) else (T1, L1, true)) := by
        show _ = _
        rw [← hT1, ← hL1]
        rfl
      go_upto_block 0 with fail
      go_cut [3] (fun x wx => ∃ v, v = x ∧ Ns w n₀ R raw v T1 L1 wx)
      case first =>
        go_wp2_with fail
        go_loopw [3] (fun o wr => ∃ v t l', v = o ∧ Ns w n₀ R raw v t l' wr ∧ t ++ l'.takeWhile isDigit = T1 ∧ l'.dropWhile isDigit = L1 ∧ t.length + l'.length ≤ 1000000) (fun _ wr => lenOf raw wr R)
        case atStart => exact ⟨_, sgn l, unsign l, rfl, hN, hT1, hL1, (by omega)⟩
        case round =>
          clear hN
          obtain ⟨v', t, l', rfl, N, e1, e2, hb⟩ := hrel
          have hm := N.at'.lenOf
          have s0 := see0 N.at'
          have dg := digit_any (see l' 0)
          cases hd : isDigit (see l' 0) with
          | true =>
            obtain ⟨c, r, rfl⟩ := isDigit_some hd
            rw [hd] at dg
            rw [see_zero] at s0 dg hd
            obtain ⟨f1, f2⟩ := takeWhile_more (r := r) hd
            rw [f1] at e1
            rw [f2] at e2
            have E1 : Hid ((t ++ [c]) ++ r.takeWhile isDigit = T1) := by
              show _ = _
              rw [← e1]
              simp
            have E2 : Hid (r.dropWhile isDigit = L1) := e2
            clear f1 f2 e1 e2 hd
            simp only [List.length_cons] at hb
            go_wp2_with fail
            refine (s0 _ (World.grownBy.refl _ _)).mono ?_
            rintro e W1 ⟨rfl, g1⟩
            go_wp2_with fail
            refine (dg _).mono ?_
            rintro e W1 ⟨rfl, rfl⟩
            go_wp2_with fail
            refine (s0 _ g1).mono ?_
            rintro e W2 ⟨rfl, g2⟩
            have hput := (N.kept g2).put c (by omega)
            go_wp2_with fail
            refine hput.mono ?_
            clear hput
            rintro e W3 ⟨v3, rfl, N3⟩
            obtain ⟨a, ca, fa, ha, hst⟩ := N3.step
            go_wp2
            have N4 := hst _ rfl
            have hm4 := N4.at'.lenOf
            exact ⟨⟨_, t ++ [c], r, rfl, N4, E1, E2, by simp; omega⟩, by rw [hm, hm4]; simp⟩
          | false =>
            obtain ⟨f1, f2⟩ := takeWhile_stop hd
            rw [f1, List.append_nil] at e1
            rw [f2] at e2
            subst e1 e2
            rw [hd] at dg
            clear hd f1 f2
            go_wp2_with fail
            refine (s0 _ (World.grownBy.refl _ _)).mono ?_
            rintro e W1 ⟨rfl, g1⟩
            go_wp2_with fail
            refine (dg _).mono ?_
            rintro e W1 ⟨rfl, rfl⟩
            go_wp2
            go_meet
            exact ⟨_, rfl, N.kept g1⟩
      case rest =>
        clear hN
        obtain ⟨v1, rfl, hN⟩ := hcut
        rename World => w3
        clear hT1 hL1
        have s0 := see0 hN.at'
        have s1 := see1 hN.at'
        have d1 := digit_any (see L1 1)
        go_upto_region 9 with fail
        go_cut [48] (fun b wx => b = .bool (pointed L1) ∧ w3.grownBy wx none)
        case first =>
          have hpe : pointed L1 = (see L1 0 == 46 && isDigit (see L1 1)) := rfl
          generalize isDigit (see L1 1) = D at *
          generalize see L1 0 = c at *
          by_cases h1 : c = 46
          · subst h1
            go_wp2_with fail
            refine (s0 _ (World.grownBy.refl _ _)).mono ?_
            rintro e W1 ⟨rfl, g1⟩
            go_wp2_with fail
            refine (s1 _ g1).mono ?_
            rintro e W2 ⟨rfl, g2⟩
            go_wp2_with fail
            refine (d1 _).mono ?_
            rintro e W2 ⟨rfl, rfl⟩
            go_wp2
            go_meet
            exact ⟨by rw [hpe]; simp, g2⟩
          · have h1' : (c == 46) = false := by simpa using h1
            go_wp2_with fail
            refine (s0 _ (World.grownBy.refl _ _)).mono ?_
            rintro e W1 ⟨rfl, g1⟩
            go_wp2
            go_meet
            exact ⟨by rw [hpe, h1', Bool.false_and], g1⟩
        case rest =>
          obtain ⟨rfl, g1⟩ := hcut
          rename World => w4
          replace hN := hN.kept g1
          clear s0 s1 d1 g1
          have hpt : pointed L1 = true → ∃ c d r, L1 = c :: d :: r ∧ c = 46 := fun e => by
            unfold pointed at e
            match L1, e with
            | [], e => exact absurd e (by decide)
            | [c], e => exact absurd e (by simp [see, isDigit])
            | c :: d :: r, e =>
              refine ⟨c, d, r, rfl, ?_⟩
              have := (Bool.and_eq_true _ _ ▸ e).1
              simpa [see] using this
          generalize hP : pointed L1 = P at *
          obtain ⟨T2, L2, Wh, hTL⟩ : ∃ T2 L2 Wh, numText l = (T2, L2, Wh) := ⟨_, _, _, rfl⟩
          have HN2 : Hid ((if P = true then (T1 ++ 46 :: L1.tail.takeWhile isDigit, L1.tail.dropWhile isDigit, false) else (T1, L1, true)) = (T2, L2, Wh)) := (show _ = _ from HN).symm.trans hTL
          have HT2 : Hid ((if begName L2 then ((⟨8, (name L2).1, nv T2, false, 0⟩ : Tk), (name L2).2) else if see L2 0 = 37 then (⟨7, [], nv T2, false, 0⟩, L2.tail) else (⟨6, [], nv T2, Wh, 0⟩, L2)) = (T, L)) := by
            have := show numeric nv l = (T, L) from HT
            unfold numeric at this
            simp only [hTL] at this
            exact this
          clear HT HN hTL hP
          go_upto_if 48 with fail
          go_cut [3, 4] (fun x y wx => ∃ v, v = x ∧ y = .bool Wh ∧ T2.length ≤ 1000000 ∧ Ns w n₀ R raw v T2 L2 wx)
          case first =>
            cases P with
            | false =>
              have e : (T1, L1, true) = (T2, L2, Wh) := HN2
              cases e
              clear HN2 HT2 hpt
              go_wp2
              go_meet
              exact ⟨_, rfl, rfl, by omega, hN⟩
            | true =>
              obtain ⟨i0, hi, hz0, hz1, hz2⟩ := info_parts infoByte
              obtain ⟨c, d, r, rfl, rfl⟩ := hpt rfl
              have e : (T1 ++ 46 :: (d :: r).takeWhile isDigit, (d :: r).dropWhile isDigit, false) = (T2, L2, Wh) := HN2
              simp only [Prod.mk.injEq] at e
              obtain ⟨hT2, hL2, rfl⟩ := e
              clear HN2 HT2 hpt
              simp only [List.length_cons] at hlen1
              have hrow := hN.row
              have hel := encs_len T1
              have hsz := hN.size
              go_wp2_with (at_builtin; refine wpList_append_own _ rfl _ _ 71 rfl (w.heap.size + 1) 5 i0 (.int .u8 0) 1 1 Tryz.underlying71 hi hz0 hz1 hz2 rfl (by decide) _ _ _ rfl (World.ownsRow.alloc hrow _) ⟨w4.heap.size, 0, none⟩ 1 1 [.int .u8 46] rfl rfl (cells_new _ [.int .u8 46] _) (fun x hx => by simp at hx; subst hx; rfl) (by unfold maxLen; omega) (by omega) (by simp; omega) ?_; intro v5 w5 hown5 hgrow5 hnil5; have hrow5 : Row (w.heap.size + 1) w5 v5 (T1 ++ [46]) := (by unfold Row; rw [encs_snoc, enc1_dot, ubytes_append, List.length_append]; exact hown5); have N5 := hN.more hgrow5 hrow5; obtain ⟨a, ca, fa, ha, hst⟩ := N5.step)
              have N6 := hst _ rfl
              clear hst ca fa N5 hrow5 hown5 hgrow5 hnil5
              generalize World.setCell w5 _ _ = w6 at *
              go_loopw [3] (fun o wr => ∃ v t l', v = o ∧ Ns w n₀ R raw v t l' wr ∧ t ++ l'.takeWhile isDigit = T2 ∧ l'.dropWhile isDigit = L2 ∧ t.length + l'.length ≤ 1000000) (fun _ wr => lenOf raw wr R)
              case atStart => exact ⟨_, T1 ++ [46], d :: r, rfl, N6, (by rw [← hT2]; simp), hL2, (by simp; omega)⟩
              case round =>
                clear N6
                obtain ⟨v', t, l', rfl, N, e1, e2, hb⟩ := hrel
                have hm := N.at'.lenOf
                have s0 := see0 N.at'
                have dg := digit_any (see l' 0)
                cases hd : isDigit (see l' 0) with
                | true =>
                  obtain ⟨c, r, rfl⟩ := isDigit_some hd
                  rw [hd] at dg
                  rw [see_zero] at s0 dg hd
                  obtain ⟨f1, f2⟩ := takeWhile_more (r := r) hd
                  rw [f1] at e1
                  rw [f2] at e2
                  have E1 : Hid ((t ++ [c]) ++ r.takeWhile isDigit = T2) := by
                    show _ = _
                    rw [← e1]
                    simp
                  have E2 : Hid (r.dropWhile isDigit = L2) := e2
                  clear f1 f2 e1 e2 hd
                  simp only [List.length_cons] at hb
                  go_wp2_with fail
                  refine (s0 _ (World.grownBy.refl _ _)).mono ?_
                  rintro e W1 ⟨rfl, g1⟩
                  go_wp2_with fail
                  refine (dg _).mono ?_
                  rintro e W1 ⟨rfl, rfl⟩
                  go_wp2_with fail
                  refine (s0 _ g1).mono ?_
                  rintro e W2 ⟨rfl, g2⟩
                  have hput := (N.kept g2).put c (by omega)
                  go_wp2_with fail
                  refine hput.mono ?_
                  clear hput
                  rintro e W3 ⟨v3, rfl, N3⟩
                  obtain ⟨a, ca, fa, ha, hst⟩ := N3.step
                  go_wp2
                  have N4 := hst _ rfl
                  have hm4 := N4.at'.lenOf
                  exact ⟨⟨_, t ++ [c], r, rfl, N4, E1, E2, by simp; omega⟩, by rw [hm, hm4]; simp⟩
                | false =>
                  obtain ⟨f1, f2⟩ := takeWhile_stop hd
                  rw [f1, List.append_nil] at e1
                  rw [f2] at e2
                  subst e1 e2
                  rw [hd] at dg
                  clear hd f1 f2
                  go_wp2_with fail
                  refine (s0 _ (World.grownBy.refl _ _)).mono ?_
                  rintro e W1 ⟨rfl, g1⟩
                  go_wp2_with fail
                  refine (dg _).mono ?_
                  rintro e W1 ⟨rfl, rfl⟩
                  go_wp2
                  go_meet
                  exact ⟨_, rfl, rfl, by omega, N.kept g1⟩
          case rest =>
            clear hN HN2 hpt
            obtain ⟨v2, rfl, rfl, hl2, hN⟩ := hcut
            rename World => w5
            have hc := hN.row.str
            have hnum := fun W => Nm.refNum_long (txtOf T2) W (by have := encs_len T2; show (encs T2).toArray.size ≤ _; simp; omega)
            rw [show (txtOf T2).data.toList = encs T2 from rfl, show Nm.numN (encs T2) = nv T2 from rfl] at hnum
            generalize Nm.numOk (encs T2) = ok at *
            generalize nv T2 = N at *
            have b0 := beg0 hN.at'
            cases hB : begName L2 with
            | true =>
              have e : ((⟨8, (name L2).1, N, false, 0⟩ : Tk), (name L2).2) = (T, L) := by
                have := show _ = _ from HT2
                rw [hB, if_pos rfl] at this
                exact this
              cases e
              rw [hB] at b0
              clear HT2 hB
              go_wp2_with fail
              refine (hnum _).mono ?_
              rintro e w5 ⟨rfl, rfl⟩
              go_wp2_with fail
              refine (b0 _ (World.grownBy.refl _ _)).mono ?_
              rintro e w6 ⟨rfl, g6⟩
              have hnm := name_any (hN.at'.kept g6)
              go_wp2_with fail
              refine hnm.mono ?_
              clear hnm
              rintro e w7 ⟨rfl, k7, g7⟩
              have t7 := (hN.five.kept g6 (by simp)).kept g7 (by simp; omega)
              obtain ⟨c0, c1, c2, c3, c4⟩ := t7.cells
              obtain ⟨f0, f1, f2, f3, f4⟩ := t7.free
              go_wp2
              refine bodyPost_ret ((t7.set _ _ _ _ _).ret rfl _ rfl) rfl ?_
              exact ⟨rfl, k7.kept_other (grown_setAll _ _ _ _ _ _ _) hR, grown_out ((hN.grown.trans (grown_but g6 _)).trans g7) (Nat.le_refl _) (grown_setAll _ _ _ _ _ _ _)⟩
            | false =>
              rw [hB] at b0
              have s0 := see0 hN.at'
              by_cases h37 : see L2 0 = 37
              · have e : ((⟨7, [], N, false, 0⟩ : Tk), L2.tail) = (T, L) := by
                  have := show _ = _ from HT2
                  rw [hB, if_neg (by decide), if_pos h37] at this
                  exact this
                cases e
                rw [h37] at s0
                obtain ⟨c, r, rfl⟩ : ∃ c r, L2 = c :: r := List.exists_cons_of_ne_nil (fun e => by rw [e] at h37; exact absurd h37 (by decide))
                clear HT2 hB h37
                go_wp2_with fail
                refine (hnum _).mono ?_
                rintro e w5 ⟨rfl, rfl⟩
                go_wp2_with fail
                refine (b0 _ (World.grownBy.refl _ _)).mono ?_
                rintro e w6 ⟨rfl, g6⟩
                go_wp2_with fail
                refine (s0 _ g6).mono ?_
                rintro e w7 ⟨rfl, g7⟩
                obtain ⟨a, ca, fa, ha, hst⟩ := (hN.kept g7).step
                have N8 := hst _ rfl
                obtain ⟨c0, c1, c2, c3, c4⟩ := N8.five.cells
                obtain ⟨f0, f1, f2, f3, f4⟩ := N8.five.free
                go_wp2
                refine bodyPost_ret ((N8.five.set _ _ _ _ _).ret rfl _ rfl) rfl ?_
                exact ⟨rfl, N8.at'.kept_other (grown_setAll _ _ _ _ _ _ _) hR, grown_out N8.grown (Nat.le_refl _) (grown_setAll _ _ _ _ _ _ _)⟩
              · have e : ((⟨6, [], N, Wh, 0⟩ : Tk), L2) = (T, L) := by
                  have := show _ = _ from HT2
                  rw [hB, if_neg (by decide), if_neg h37] at this
                  exact this
                cases e
                generalize see L 0 = c at *
                have h37' : (c == 37) = false := by simpa using h37
                clear HT2 hB
                go_wp2_with fail
                refine (hnum _).mono ?_
                rintro e w5 ⟨rfl, rfl⟩
                go_wp2_with fail
                refine (b0 _ (World.grownBy.refl _ _)).mono ?_
                rintro e w6 ⟨rfl, g6⟩
                go_wp2_with fail
                refine (s0 _ g6).mono ?_
                rintro e w7 ⟨rfl, g7⟩
                have N8 := hN.kept g7
                obtain ⟨c0, c1, c2, c3, c4⟩ := N8.five.cells
                obtain ⟨f0, f1, f2, f3, f4⟩ := N8.five.free
                go_wp2
                refine bodyPost_ret ((N8.five.set _ _ _ _ _).ret rfl _ rfl) rfl ?_
                exact ⟨rfl, N8.at'.kept_other (grown_setAll _ _ _ _ _ _ _) hR, grown_out N8.grown (Nat.le_refl _) (grown_setAll _ _ _ _ _ _ _)⟩

end Go.Proofs.YtcicppadjipndaaGreat.Ref
