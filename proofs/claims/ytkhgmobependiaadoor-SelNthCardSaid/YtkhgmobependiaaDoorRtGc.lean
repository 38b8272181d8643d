/- The document's own reader: numbers. -/
import Derived.Test.YtkhgmobependiaaDoorRtGb
import Derived.Test.YtkhgmobependiaaDoorNmG
import Derived.Deep.CutBlock
import Derived.Deep.DeepCutAuto
namespace Go.Proofs.YtkhgmobependiaaDoor.Ref
open Go Go.RowKit Go.Shelf

/-- The number of a number's text. -/
def nv (t : List Int) : Int := Nm.numN (encs t)

/-- Where a number is read: the text so far, what is ahead, the result's block as it was laid. -/
structure Ns (w : World) (n₀ R : Nat) (raw : List Int) (v : Value) (t l : List Int) (X : World) : Prop where
  row : Row (w.heap.size + 1) X v t
  at' : At n₀ X R raw l
  grown : w.grownBy X (some R)
  size : w.heap.size + 1 ≤ X.heap.size
  five : Five X w.heap.size (.int .i64 0) (.string ⟨#[]⟩) (.int .i64 0) (.bool false) (.int .i64 0)
  low : R < w.heap.size
theorem Ns.kept {w : World} {n₀ R : Nat} {raw : List Int} {v : Value} {t l : List Int} {X Y : World} (h : Ns w n₀ R raw v t l X) (g : X.grownBy Y none) : Ns w n₀ R raw v t l Y :=
  ⟨h.row.far (grown_but g (some R)) (by have := h.low; omega), h.at'.kept g, h.grown.trans (grown_but g _), Nat.le_trans h.size g.size, h.five.kept g (by simp), h.low⟩
theorem Ns.step {w : World} {n₀ R : Nat} {raw : List Int} {v : Value} {t l : List Int} {c : Int} {X : World} (h : Ns w n₀ R raw v t (c :: l) X) : ∃ a : Nat, X.cell? ⟨R, 1, none⟩ = some (.int .i64 a) ∧ X.frozen? ⟨R, 1, none⟩ = false ∧ (a : Int) ≤ 1000002 ∧
    ∀ u, u = .int .i64 ((a : Int) + 1) → Ns w n₀ R raw v t l (X.setCell ⟨R, 1, none⟩ u) := by
  obtain ⟨a, h1, h2, h3, h4⟩ := h.at'.step
  have := h.low
  refine ⟨a, h1, h2, h3, fun u e => ?_⟩
  obtain ⟨k, g⟩ := h4 u e
  exact ⟨h.row.far g (by omega), k, h.grown.trans g, Nat.le_trans h.size g.size, h.five.kept g (by simp; omega), h.low⟩
theorem Ns.put {w : World} {n₀ R : Nat} {raw : List Int} {v : Value} {t l : List Int} {X : World} (h : Ns w n₀ R raw v t l X) (c : Int) (hl : t.length ≤ 1000000) :
    Calls Tryd.prog 32 #[v, .int .i64 c] X fun e w' => ∃ v', e = .returned v' ∧ Ns w n₀ R raw v' (t ++ [c]) l w' := by
  have := h.low
  refine (h.row.put c hl h.size (by omega) h.at').mono ?_
  rintro e w' ⟨v', rfl, k1, k2, k3, k4, k5⟩
  exact ⟨v', rfl, k1, k2, k3 w (by omega) h.grown, Nat.le_trans h.size k4, (k5 _ (by omega)).trans h.five, h.low⟩
/-- A row that has grown by itself. -/
theorem Ns.more {w : World} {n₀ R : Nat} {raw : List Int} {v v' : Value} {t t' l : List Int} {X Y : World} {o : Obj} (h : Ns w n₀ R raw v t l X) (hg : (X.alloc o).grownBy Y v.ownBlock) (hr : Row (w.heap.size + 1) Y v' t') : Ns w n₀ R raw v' t' l Y := by
  have hlow := h.low
  have far : ∀ j, v.ownBlock = some j → w.heap.size + 1 ≤ j := fun j e => (World.ownsRow.lt h.row j e).1
  refine ⟨hr, (h.at'.kept (World.grownBy_alloc X o none)).kept_far hg (fun j e => by have := far j e; omega), ?_, ?_, ?_, hlow⟩
  · exact (h.grown.trans (World.grownBy_alloc X o _)).andThen hg (fun j e => .inl (by have := far j e; omega))
  · have h1 := hg.size
    have h2 := h.size
    rw [World.size_alloc] at h1
    omega
  · exact (h.five.kept (World.grownBy_alloc X o none) (by simp)).kept hg (fun e => by have := far _ e.symm; omega)

theorem sgn_yes {l : List Int} (h : (see l 0 == 43 || see l 0 == 45) = true) : ∃ c r, l = c :: r ∧ sgn l = [c] ∧ unsign l = r := by
  cases l with
  | nil => exact absurd h (by decide)
  | cons c r => exact ⟨c, r, rfl, by unfold sgn; rw [if_pos h]; rfl, by unfold unsign; rw [if_pos h]; rfl⟩
theorem sgn_no {l : List Int} (h : (see l 0 == 43 || see l 0 == 45) = false) : sgn l = [] ∧ unsign l = l := by
  unfold sgn unsign
  rw [h]
  exact ⟨rfl, rfl⟩
theorem sgn_len (l : List Int) : (sgn l).length + (unsign l).length = l.length := by
  cases h : (see l 0 == 43 || see l 0 == 45) with
  | true =>
    obtain ⟨c, r, rfl, e1, e2⟩ := sgn_yes h
    rw [e1, e2]
    simp
    omega
  | false =>
    obtain ⟨e1, e2⟩ := sgn_no h
    rw [e1, e2]
    simp
theorem enc1_dot : enc1 46 = [46] := by decide +kernel
theorem takeWhile_stop {l : List Int} (h : isDigit (see l 0) = false) : l.takeWhile isDigit = [] ∧ l.dropWhile isDigit = l := by
  cases l with
  | nil => exact ⟨rfl, rfl⟩
  | cons c r =>
    rw [see_zero] at h
    exact ⟨by rw [List.takeWhile_cons, h]; rfl, by rw [List.dropWhile_cons, h]; rfl⟩
theorem takeWhile_more {c : Int} {r : List Int} (h : isDigit c = true) : (c :: r).takeWhile isDigit = c :: r.takeWhile isDigit ∧ (c :: r).dropWhile isDigit = r.dropWhile isDigit :=
  ⟨by rw [List.takeWhile_cons, if_pos h], by rw [List.dropWhile_cons, if_pos h]⟩
theorem isDigit_some {l : List Int} (h : isDigit (see l 0) = true) : ∃ c r, l = c :: r := List.exists_cons_of_ne_nil (fun e => by rw [e] at h; exact absurd h (by decide))

set_option maxRecDepth 100000 in
set_option maxHeartbeats 4000000 in
theorem numeric_any {w : World} {n₀ R : Nat} {raw l : List Int} (h : At n₀ w R raw l) :
    Calls Tryd.prog 22 #[.pointer (some ⟨R, 0, none⟩)] w fun e w' => e = .returned (tkV (numeric nv l).1) ∧ At n₀ w' R raw (numeric nv l).2 ∧ w.grownBy w' (some R) := by
  have hR := h.lt
  have hlen := h.len
  obtain ⟨T, L, hTL⟩ : ∃ T L, numeric nv l = (T, L) := ⟨_, _, rfl⟩
  have HT : Hid (numeric nv l = (T, L)) := hTL
  rw [hTL]
  clear hTL
  have hN : Ns w n₀ R raw (.slice none 0 0) [] l (w.alloc (.cells #[.int .i64 0, .string ⟨#[]⟩, .int .i64 0, .bool false, .int .i64 0] 58)) :=
    ⟨Row.none _ _, h.kept (World.grownBy_alloc _ _ _), World.grownBy_alloc _ _ _, by simp, Five.new _ _ _ _ _ _, hR⟩
  clear h
  go_enter Tryd.func22, Tryd.ntmps22
  go_upto_region 3 with fail
  generalize World.alloc w _ = w0 at *
  have s0 := see0 hN.at'
  go_cut [15] (fun b wx => b = .bool (see l 0 == 43 || see l 0 == 45) ∧ w0.grownBy wx none)
  case first =>
    generalize see l 0 = c at *
    by_cases h1 : c = 43
    · subst h1
      go_wp2_with fail
      refine (s0 _ (World.grownBy.refl _ _)).mono ?_
      rintro e w1 ⟨rfl, g1⟩
      go_wp2
      go_meet
      exact ⟨rfl, g1⟩
    · have h1' : (c == 43) = false := by simpa using h1
      go_wp2_with fail
      refine (s0 _ (World.grownBy.refl _ _)).mono ?_
      rintro e w1 ⟨rfl, g1⟩
      go_wp2_with fail
      refine (s0 _ g1).mono ?_
      rintro e w2 ⟨rfl, g2⟩
      go_wp2
      go_meet
      exact ⟨by rw [h1', Bool.false_or], g2⟩
  case rest =>
    obtain ⟨rfl, g1⟩ := hcut
    rename World => w1
    replace hN := hN.kept g1
    clear s0 g1
    have y1 := fun e => sgn_yes (l := l) e
    have y2 := fun e => sgn_no (l := l) e
    have hsl := sgn_len l
    generalize (see l 0 == 43 || see l 0 == 45) = s at *
    go_upto_if 15 with fail
    go_cut [3] (fun x wx => ∃ v, v = x ∧ Ns w n₀ R raw v (sgn l) (unsign l) wx)
    case first =>
      cases s with
      | true =>
        obtain ⟨c, r, rfl, e1, e2⟩ := y1 rfl
        have s0 := see0 hN.at'
        rw [see_zero] at s0
        clear y1 y2
        go_wp2_with fail
        refine (s0 _ (World.grownBy.refl _ _)).mono ?_
        rintro e w2 ⟨rfl, g2⟩
        have hput := (hN.kept g2).put c (by simp)
        go_wp2_with fail
        refine hput.mono ?_
        clear hput
        rintro e w3 ⟨v3, rfl, N3⟩
        obtain ⟨a, ca, fa, ha, hst⟩ := N3.step
        go_wp2
        have N4 := hst _ rfl
        go_meet
        exact ⟨_, rfl, by rw [e1, e2]; exact N4⟩
      | false =>
        obtain ⟨e1, e2⟩ := y2 rfl
        clear y1 y2
        go_wp2
        go_meet
        exact ⟨_, rfl, by rw [e1, e2]; exact hN⟩
    case rest =>
      clear hN y1 y2
      obtain ⟨v, rfl, hN⟩ := hcut
      rename World => w2
      obtain ⟨T1, hT1⟩ : ∃ T1, sgn l ++ (unsign l).takeWhile isDigit = T1 := ⟨_, rfl⟩
      obtain ⟨L1, hL1⟩ : ∃ L1, (unsign l).dropWhile isDigit = L1 := ⟨_, rfl⟩
      have hlen1 : T1.length + L1.length ≤ 1000000 := by
        have e := congrArg List.length (List.takeWhile_append_dropWhile (p := isDigit) (l := unsign l))
        rw [List.length_append] at e
        rw [← hT1, ← hL1, List.length_append]
        omega
      have HN : Hid (numText l = if pointed L1 = true then (T1 ++ 46 :: L1.tail.takeWhile isDigit, L1.tail.dropWhile isDigit, false) else (T1, L1, true)) := by
        show _ = _
        rw [← hT1, ← hL1]
        rfl
      go_upto_block 0 with fail
      go_cut [3] (fun x wx => ∃ v, v = x ∧ Ns w n₀ R raw v T1 L1 wx)
      case first =>
        go_wp2_with fail
        go_loopw [3] (fun o wr => ∃ v t l', v = o ∧ Ns w n₀ R raw v t l' wr ∧ t ++ l'.takeWhile isDigit = T1 ∧ l'.dropWhile isDigit = L1 ∧ t.length + l'.length ≤ 1000000) (fun _ wr => lenOf raw wr R)
        case atStart => exact ⟨_, sgn l, unsign l, rfl, hN, hT1, hL1, (by omega)⟩
        case round =>
          clear hN
          obtain ⟨v', t, l', rfl, N, e1, e2, hb⟩ := hrel
          have hm := N.at'.lenOf
          have s0 := see0 N.at'
          have dg := digit_any (see l' 0)
          cases hd : isDigit (see l' 0) with
          | true =>
            obtain ⟨c, r, rfl⟩ := isDigit_some hd
            rw [hd] at dg
            rw [see_zero] at s0 dg hd
            obtain ⟨f1, f2⟩ := takeWhile_more (r := r) hd
            rw [f1] at e1
            rw [f2] at e2
            have E1 : Hid ((t ++ [c]) ++ r.takeWhile isDigit = T1) := by
              show _ = _
              rw [← e1]
              simp
            have E2 : Hid (r.dropWhile isDigit = L1) := e2
            clear f1 f2 e1 e2 hd
            simp only [List.length_cons] at hb
            go_wp2_with fail
            refine (s0 _ (World.grownBy.refl _ _)).mono ?_
            rintro e W1 ⟨rfl, g1⟩
            go_wp2_with fail
            refine (dg _).mono ?_
            rintro e W1 ⟨rfl, rfl⟩
            go_wp2_with fail
            refine (s0 _ g1).mono ?_
            rintro e W2 ⟨rfl, g2⟩
            have hput := (N.kept g2).put c (by omega)
            go_wp2_with fail
            refine hput.mono ?_
            clear hput
            rintro e W3 ⟨v3, rfl, N3⟩
            obtain ⟨a, ca, fa, ha, hst⟩ := N3.step
            go_wp2
            have N4 := hst _ rfl
            have hm4 := N4.at'.lenOf
            exact ⟨⟨_, t ++ [c], r, rfl, N4, E1, E2, by simp; omega⟩, by rw [hm, hm4]; simp⟩
          | false =>
            obtain ⟨f1, f2⟩ := takeWhile_stop hd
            rw [f1, List.append_nil] at e1
            rw [f2] at e2
            subst e1 e2
            rw [hd] at dg
            clear hd f1 f2
            go_wp2_with fail
            refine (s0 _ (World.grownBy.refl _ _)).mono ?_
            rintro e W1 ⟨rfl, g1⟩
            go_wp2_with fail
            refine (dg _).mono ?_
            rintro e W1 ⟨rfl, rfl⟩
            go_wp2
            go_meet
            exact ⟨_, rfl, N.kept g1⟩
      case rest =>
        clear hN
        obtain ⟨v1, rfl, hN⟩ := hcut
        rename World => w3
        clear hT1 hL1
        have s0 := see0 hN.at'
        have s1 := see1 hN.at'
        have d1 := digit_any (see L1 1)
        go_upto_region 9 with fail
        go_cut [48] (fun b wx => b = .bool (pointed L1) ∧ w3.grownBy wx none)
        case first =>
          have hpe : pointed L1 = (see L1 0 == 46 && isDigit (see L1 1)) := rfl
          generalize isDigit (see L1 1) = D at *
          generalize see L1 0 = c at *
          by_cases h1 : c = 46
          · subst h1
            go_wp2_with fail
            refine (s0 _ (World.grownBy.refl _ _)).mono ?_
            rintro e W1 ⟨rfl, g1⟩
            go_wp2_with fail
            refine (s1 _ g1).mono ?_
            rintro e W2 ⟨rfl, g2⟩
            go_wp2_with fail
            refine (d1 _).mono ?_
            rintro e W2 ⟨rfl, rfl⟩
            go_wp2
            go_meet
            exact ⟨by rw [hpe]; simp, g2⟩
          · have h1' : (c == 46) = false := by simpa using h1
            go_wp2_with fail
            refine (s0 _ (World.grownBy.refl _ _)).mono ?_
            rintro e W1 ⟨rfl, g1⟩
            go_wp2
            go_meet
            exact ⟨by rw [hpe, h1', Bool.false_and], g1⟩
        case rest =>
          obtain ⟨rfl, g1⟩ := hcut
          rename World => w4
          replace hN := hN.kept g1
          clear s0 s1 d1 g1
          have hpt : pointed L1 = true → ∃ c d r, L1 = c :: d :: r ∧ c = 46 := fun e => by
            unfold pointed at e
            match L1, e with
            | [], e => exact absurd e (by decide)
            | [c], e => exact absurd e (by simp [see, isDigit])
            | c :: d :: r, e =>
              refine ⟨c, d, r, rfl, ?_⟩
              have := (Bool.and_eq_true _ _ ▸ e).1
              simpa [see] using this
          generalize hP : pointed L1 = P at *
          obtain ⟨T2, L2, Wh, hTL⟩ : ∃ T2 L2 Wh, numText l = (T2, L2, Wh) := ⟨_, _, _, rfl⟩
          have HN2 : Hid ((if P = true then (T1 ++ 46 :: L1.tail.takeWhile isDigit, L1.tail.dropWhile isDigit, false) else (T1, L1, true)) = (T2, L2, Wh)) := (show _ = _ from HN).symm.trans hTL
          have HT2 : Hid ((if begName L2 then ((⟨8, (name L2).1, nv T2, false, 0⟩ : Tk), (name L2).2) else if see L2 0 = 37 then (⟨7, [], nv T2, false, 0⟩, L2.tail) else (⟨6, [], nv T2, Wh, 0⟩, L2)) = (T, L)) := by
            have := show numeric nv l = (T, L) from HT
            unfold numeric at this
            simp only [hTL] at this
            exact this
          clear HT HN hTL hP
          go_upto_if 48 with fail
          go_cut [3, 4] (fun x y wx => ∃ v, v = x ∧ y = .bool Wh ∧ T2.length ≤ 1000000 ∧ Ns w n₀ R raw v T2 L2 wx)
          case first =>
            cases P with
            | false =>
              have e : (T1, L1, true) = (T2, L2, Wh) := HN2
              cases e
              clear HN2 HT2 hpt
              go_wp2
              go_meet
              exact ⟨_, rfl, rfl, by omega, hN⟩
            | true =>
              obtain ⟨i0, hi, hz0, hz1, hz2⟩ := info_parts infoByte
              obtain ⟨c, d, r, rfl, rfl⟩ := hpt rfl
              have e : (T1 ++ 46 :: (d :: r).takeWhile isDigit, (d :: r).dropWhile isDigit, false) = (T2, L2, Wh) := HN2
              simp only [Prod.mk.injEq] at e
              obtain ⟨hT2, hL2, rfl⟩ := e
              clear HN2 HT2 hpt
              simp only [List.length_cons] at hlen1
              have hrow := hN.row
              have hel := encs_len T1
              have hsz := hN.size
              go_wp2_with (at_builtin; refine wpList_append_own _ rfl _ _ 48 rfl (w.heap.size + 1) 5 i0 (.int .u8 0) 1 1 Tryd.underlying48 hi hz0 hz1 hz2 rfl (by decide) _ _ _ rfl (World.ownsRow.alloc hrow _) ⟨w4.heap.size, 0, none⟩ 1 1 [.int .u8 46] rfl rfl (cells_new _ [.int .u8 46] _) (fun x hx => by simp at hx; subst hx; rfl) (by unfold maxLen; omega) (by omega) (by simp; omega) ?_; intro v5 w5 hown5 hgrow5 hnil5; have hrow5 : Row (w.heap.size + 1) w5 v5 (T1 ++ [46]) := (by unfold Row; rw [encs_snoc, enc1_dot, ubytes_append, List.length_append]; exact hown5); have N5 := hN.more hgrow5 hrow5; obtain ⟨a, ca, fa, ha, hst⟩ := N5.step)
              have N6 := hst _ rfl
              clear hst ca fa N5 hrow5 hown5 hgrow5 hnil5
              generalize World.setCell w5 _ _ = w6 at *
              go_loopw [3] (fun o wr => ∃ v t l', v = o ∧ Ns w n₀ R raw v t l' wr ∧ t ++ l'.takeWhile isDigit = T2 ∧ l'.dropWhile isDigit = L2 ∧ t.length + l'.length ≤ 1000000) (fun _ wr => lenOf raw wr R)
              case atStart => exact ⟨_, T1 ++ [46], d :: r, rfl, N6, (by rw [← hT2]; simp), hL2, (by simp; omega)⟩
              case round =>
                clear N6
                obtain ⟨v', t, l', rfl, N, e1, e2, hb⟩ := hrel
                have hm := N.at'.lenOf
                have s0 := see0 N.at'
                have dg := digit_any (see l' 0)
                cases hd : isDigit (see l' 0) with
                | true =>
                  obtain ⟨c, r, rfl⟩ := isDigit_some hd
                  rw [hd] at dg
                  rw [see_zero] at s0 dg hd
                  obtain ⟨f1, f2⟩ := takeWhile_more (r := r) hd
                  rw [f1] at e1
                  rw [f2] at e2
                  have E1 : Hid ((t ++ [c]) ++ r.takeWhile isDigit = T2) := by
                    show _ = _
                    rw [← e1]
                    simp
                  have E2 : Hid (r.dropWhile isDigit = L2) := e2
                  clear f1 f2 e1 e2 hd
                  simp only [List.length_cons] at hb
                  go_wp2_with fail
                  refine (s0 _ (World.grownBy.refl _ _)).mono ?_
                  rintro e W1 ⟨rfl, g1⟩
                  go_wp2_with fail
                  refine (dg _).mono ?_
                  rintro e W1 ⟨rfl, rfl⟩
                  go_wp2_with fail
                  refine (s0 _ g1).mono ?_
                  rintro e W2 ⟨rfl, g2⟩
                  have hput := (N.kept g2).put c (by omega)
                  go_wp2_with fail
                  refine hput.mono ?_
                  clear hput
                  rintro e W3 ⟨v3, rfl, N3⟩
                  obtain ⟨a, ca, fa, ha, hst⟩ := N3.step
                  go_wp2
                  have N4 := hst _ rfl
                  have hm4 := N4.at'.lenOf
                  exact ⟨⟨_, t ++ [c], r, rfl, N4, E1, E2, by simp; omega⟩, by rw [hm, hm4]; simp⟩
                | false =>
                  obtain ⟨f1, f2⟩ := takeWhile_stop hd
                  rw [f1, List.append_nil] at e1
                  rw [f2] at e2
                  subst e1 e2
                  rw [hd] at dg
                  clear hd f1 f2
                  go_wp2_with fail
                  refine (s0 _ (World.grownBy.refl _ _)).mono ?_
                  rintro e W1 ⟨rfl, g1⟩
                  go_wp2_with fail
                  refine (dg _).mono ?_
                  rintro e W1 ⟨rfl, rfl⟩
                  go_wp2
                  go_meet
                  exact ⟨_, rfl, rfl, by omega, N.kept g1⟩
          case rest =>
            clear hN HN2 hpt
            obtain ⟨v2, rfl, rfl, hl2, hN⟩ := hcut
            rename World => w5
            have hc := hN.row.str
            have hnum := fun W => Nm.refNum_long (txtOf T2) W (by have := encs_len T2; show (encs T2).toArray.size ≤ _; simp; omega)
            rw [show (txtOf T2).data.toList = encs T2 from rfl, show Nm.numN (encs T2) = nv T2 from rfl] at hnum
            generalize Nm.numOk (encs T2) = ok at *
            generalize nv T2 = N at *
            have b0 := beg0 hN.at'
            cases hB : begName L2 with
            | true =>
              have e : ((⟨8, (name L2).1, N, false, 0⟩ : Tk), (name L2).2) = (T, L) := by
                have := show _ = _ from HT2
                rw [hB, if_pos rfl] at this
                exact this
              cases e
              rw [hB] at b0
              clear HT2 hB
              go_wp2_with fail
              refine (hnum _).mono ?_
              rintro e w5 ⟨rfl, rfl⟩
              go_wp2_with fail
              refine (b0 _ (World.grownBy.refl _ _)).mono ?_
              rintro e w6 ⟨rfl, g6⟩
              have hnm := name_any (hN.at'.kept g6)
              go_wp2_with fail
              refine hnm.mono ?_
              clear hnm
              rintro e w7 ⟨rfl, k7, g7⟩
              have t7 := (hN.five.kept g6 (by simp)).kept g7 (by simp; omega)
              obtain ⟨c0, c1, c2, c3, c4⟩ := t7.cells
              obtain ⟨f0, f1, f2, f3, f4⟩ := t7.free
              go_wp2
              refine bodyPost_ret ((t7.set _ _ _ _ _).ret rfl _ rfl) rfl ?_
              exact ⟨rfl, k7.kept_other (grown_setAll _ _ _ _ _ _ _) hR, grown_out ((hN.grown.trans (grown_but g6 _)).trans g7) (Nat.le_refl _) (grown_setAll _ _ _ _ _ _ _)⟩
            | false =>
              rw [hB] at b0
              have s0 := see0 hN.at'
              by_cases h37 : see L2 0 = 37
              · have e : ((⟨7, [], N, false, 0⟩ : Tk), L2.tail) = (T, L) := by
                  have := show _ = _ from HT2
                  rw [hB, if_neg (by decide), if_pos h37] at this
                  exact this
                cases e
                rw [h37] at s0
                obtain ⟨c, r, rfl⟩ : ∃ c r, L2 = c :: r := List.exists_cons_of_ne_nil (fun e => by rw [e] at h37; exact absurd h37 (by decide))
                clear HT2 hB h37
                go_wp2_with fail
                refine (hnum _).mono ?_
                rintro e w5 ⟨rfl, rfl⟩
                go_wp2_with fail
                refine (b0 _ (World.grownBy.refl _ _)).mono ?_
                rintro e w6 ⟨rfl, g6⟩
                go_wp2_with fail
                refine (s0 _ g6).mono ?_
                rintro e w7 ⟨rfl, g7⟩
                obtain ⟨a, ca, fa, ha, hst⟩ := (hN.kept g7).step
                have N8 := hst _ rfl
                obtain ⟨c0, c1, c2, c3, c4⟩ := N8.five.cells
                obtain ⟨f0, f1, f2, f3, f4⟩ := N8.five.free
                go_wp2
                refine bodyPost_ret ((N8.five.set _ _ _ _ _).ret rfl _ rfl) rfl ?_
                exact ⟨rfl, N8.at'.kept_other (grown_setAll _ _ _ _ _ _ _) hR, grown_out N8.grown (Nat.le_refl _) (grown_setAll _ _ _ _ _ _ _)⟩
              · have e : ((⟨6, [], N, Wh, 0⟩ : Tk), L2) = (T, L) := by
                  have := show _ = _ from HT2
                  rw [hB, if_neg (by decide), if_neg h37] at this
                  exact this
                cases e
                generalize see L 0 = c at *
                have h37' : (c == 37) = false := by simpa using h37
                clear HT2 hB
                go_wp2_with fail
                refine (hnum _).mono ?_
                rintro e w5 ⟨rfl, rfl⟩
                go_wp2_with fail
                refine (b0 _ (World.grownBy.refl _ _)).mono ?_
                rintro e w6 ⟨rfl, g6⟩
                go_wp2_with fail
                refine (s0 _ g6).mono ?_
                rintro e w7 ⟨rfl, g7⟩
                have N8 := hN.kept g7
                obtain ⟨c0, c1, c2, c3, c4⟩ := N8.five.cells
                obtain ⟨f0, f1, f2, f3, f4⟩ := N8.five.free
                go_wp2
                refine bodyPost_ret ((N8.five.set _ _ _ _ _).ret rfl _ rfl) rfl ?_
                exact ⟨rfl, N8.at'.kept_other (grown_setAll _ _ _ _ _ _ _) hR, grown_out N8.grown (Nat.le_refl _) (grown_setAll _ _ _ _ _ _ _)⟩

end Go.Proofs.YtkhgmobependiaaDoor.Ref

/- The document's own Tokens, at every slice of code points that is not too long. -/
namespace Go.Proofs.YtkhgmobependiaaDoor.Ref
open Go Go.RowKit Go.Shelf

theorem infoTk : (Tryd.prog.info? 58).map (fun i => (i.zero, i.size, i.bytes)) = some (some (.agg #[.int .i64 0, .string ⟨#[]⟩, .int .i64 0, .bool false, .int .i64 0]), 5, 48) := by kernel_rfl
theorem btCells_one (t : Bt) : ∀ u ∈ btCells t, u.oneCell' = true := fun u hu => by
  simp [btCells] at hu
  rcases hu with rfl | rfl | rfl | rfl | rfl <;> rfl

/-- Where the tokens are read: those so far, what is ahead. -/
structure Ts (w : World) (raw : List Int) (v : Value) (ts : List Tk) (l : List Int) (X : World) : Prop where
  row : X.ownsRow (w.heap.size + 1) 58 5 v ts.length (btsCells (ts.map btOf))
  at' : At w.heap.size X w.heap.size raw l
  below : Below w.heap.size w X
  size : w.heap.size + 1 ≤ X.heap.size
theorem Ts.far {w : World} {raw : List Int} {v : Value} {ts : List Tk} {l l' : List Int} {X Y : World} (h : Ts w raw v ts l X) (g : X.grownBy Y (some w.heap.size)) (k : At w.heap.size Y w.heap.size raw l') : Ts w raw v ts l' Y :=
  ⟨owns_far h.row g (by omega), k, h.below.grown g (by have := h.size; omega) (fun r e => by cases e; omega), Nat.le_trans h.size g.size⟩
theorem Ts.kept {w : World} {raw : List Int} {v : Value} {ts : List Tk} {l : List Int} {X Y : World} (h : Ts w raw v ts l X) (g : X.grownBy Y none) : Ts w raw v ts l Y := h.far (grown_but g _) (h.at'.kept g)
theorem Ts.step {w : World} {raw : List Int} {v : Value} {ts : List Tk} {l : List Int} {c : Int} {X : World} (h : Ts w raw v ts (c :: l) X) : ∃ a : Nat, X.cell? ⟨w.heap.size, 1, none⟩ = some (.int .i64 a) ∧ X.frozen? ⟨w.heap.size, 1, none⟩ = false ∧ (a : Int) ≤ 1000002 ∧
    ∀ u, u = .int .i64 ((a : Int) + 1) → Ts w raw v ts l (X.setCell ⟨w.heap.size, 1, none⟩ u) := by
  obtain ⟨a, h1, h2, h3, h4⟩ := h.at'.step
  exact ⟨a, h1, h2, h3, fun u e => h.far (h4 u e).2 (h4 u e).1⟩
/-- One token more. -/
theorem Ts.push {w : World} {raw : List Int} {v v' : Value} {ts : List Tk} {x : Tk} {l : List Int} {X Y : World} {o : Obj} (h : Ts w raw v ts l X) (hg : (X.alloc o).grownBy Y v.ownBlock) (hr : Y.ownsRow (w.heap.size + 1) 58 5 v' (ts.length + 1) (btsCells (ts.map btOf) ++ btCells (btOf x))) : Ts w raw v' (ts ++ [x]) l Y := by
  have far : ∀ j, v.ownBlock = some j → w.heap.size + 1 ≤ j := fun j e => (World.ownsRow.lt h.row j e).1
  refine ⟨?_, (h.at'.kept (World.grownBy_alloc X o none)).kept_far hg (fun j e => by have := far j e; omega), ?_, ?_⟩
  · have e : btsCells ((ts ++ [x]).map btOf) = btsCells (ts.map btOf) ++ btCells (btOf x) := by simp [btsCells]
    rw [e, List.length_append]
    exact hr
  · exact (h.below.alloc (by have := h.size; omega) o).grown hg (by have := h.size; rw [World.size_alloc]; omega) (fun j e => by have := far j e; omega)
  · have h1 := hg.size
    have h2 := h.size
    rw [World.size_alloc] at h1
    omega

/-- The reader is not behind the end. -/
def AtE (n₀ : Nat) (W : World) (R : Nat) (raw l : List Int) : Prop := ∃ v a, Rd n₀ W R v raw a ∧ a ≤ raw.length ∧ l = (raw.map fixC).drop a
theorem AtE.at' {n₀ : Nat} {W : World} {R : Nat} {raw l : List Int} (h : AtE n₀ W R raw l) : At n₀ W R raw l := by
  obtain ⟨v, a, h1, _, h2⟩ := h
  exact ⟨v, a, h1, h2⟩
theorem AtE.kept {n₀ : Nat} {W W' : World} {R : Nat} {raw l : List Int} (h : AtE n₀ W R raw l) (g : W.grownBy W' none) : AtE n₀ W' R raw l := by
  obtain ⟨v, a, h1, h2, h3⟩ := h
  exact ⟨v, a, h1.kept g, h2, h3⟩
theorem At.goE {n₀ : Nat} {W : World} {R : Nat} {raw l : List Int} (h : At n₀ W R raw l) (k : Nat) (hk : k ≤ l.length) (h0 : l ≠ []) : ∃ a : Nat, W.cell? ⟨R, 1, none⟩ = some (.int .i64 a) ∧ W.frozen? ⟨R, 1, none⟩ = false ∧ (a : Int) ≤ 1000002 ∧
    ∀ u, u = .int .i64 ((a : Int) + k) → AtE n₀ (W.setCell ⟨R, 1, none⟩ u) R raw (l.drop k) := by
  obtain ⟨v, a, hr, rfl⟩ := h
  have hm := hr.most
  have hl := hr.least
  refine ⟨a, hr.pair.c1, hr.pair.f1, by omega, fun u e => ?_⟩
  rw [Ne, List.drop_eq_nil_iff, List.length_map] at h0
  rw [List.length_drop, List.length_map] at hk
  refine ⟨v, a + k, ?_, by omega, by rw [List.drop_drop]⟩
  rw [e, show ((a : Int) + k) = ((a + k : Nat) : Int) by omega]
  exact hr.set (a + k) (by omega)
theorem AtE.go2 {n₀ : Nat} {W : World} {R : Nat} {raw l : List Int} (h : AtE n₀ W R raw l) : ∃ a : Nat, W.cell? ⟨R, 1, none⟩ = some (.int .i64 a) ∧ W.frozen? ⟨R, 1, none⟩ = false ∧ (a : Int) ≤ 1000002 ∧
    ∀ u, u = .int .i64 ((a : Int) + 2) → At n₀ (W.setCell ⟨R, 1, none⟩ u) R raw (l.drop 2) := by
  obtain ⟨v, a, hr, hle, rfl⟩ := h
  have hm := hr.most
  refine ⟨a, hr.pair.c1, hr.pair.f1, by omega, fun u e => ⟨v, a + 2, ?_, by rw [List.drop_drop]⟩⟩
  rw [e, show ((a : Int) + 2) = ((a + 2 : Nat) : Int) by omega]
  exact hr.set (a + 2) (by omega)
structure TsE (w : World) (raw : List Int) (v : Value) (ts : List Tk) (l : List Int) (X : World) : Prop where
  ts : Ts w raw v ts l X
  ate : AtE w.heap.size X w.heap.size raw l
theorem TsE.at' {w : World} {raw : List Int} {v : Value} {ts : List Tk} {l : List Int} {X : World} (h : TsE w raw v ts l X) : At w.heap.size X w.heap.size raw l := h.ts.at'
theorem TsE.kept {w : World} {raw : List Int} {v : Value} {ts : List Tk} {l : List Int} {X Y : World} (h : TsE w raw v ts l X) (g : X.grownBy Y none) : TsE w raw v ts l Y := ⟨h.ts.kept g, h.ate.kept g⟩
theorem Ts.step2E {w : World} {raw : List Int} {v : Value} {ts : List Tk} {l : List Int} {c d : Int} {X : World} (h : Ts w raw v ts (c :: d :: l) X) : ∃ a : Nat, X.cell? ⟨w.heap.size, 1, none⟩ = some (.int .i64 a) ∧ X.frozen? ⟨w.heap.size, 1, none⟩ = false ∧ (a : Int) ≤ 1000002 ∧
    ∀ u, u = .int .i64 ((a : Int) + 2) → TsE w raw v ts l (X.setCell ⟨w.heap.size, 1, none⟩ u) := by
  obtain ⟨a, h1, h2, h3, h4⟩ := h.at'.goE 2 (by simp) (by simp)
  exact ⟨a, h1, h2, h3, fun u e => ⟨h.far (grown_set1 _ _ _) (h4 u e).at', h4 u e⟩⟩
theorem TsE.step {w : World} {raw : List Int} {v : Value} {ts : List Tk} {l : List Int} {c : Int} {X : World} (h : TsE w raw v ts (c :: l) X) : ∃ a : Nat, X.cell? ⟨w.heap.size, 1, none⟩ = some (.int .i64 a) ∧ X.frozen? ⟨w.heap.size, 1, none⟩ = false ∧ (a : Int) ≤ 1000002 ∧
    ∀ u, u = .int .i64 ((a : Int) + 1) → TsE w raw v ts l (X.setCell ⟨w.heap.size, 1, none⟩ u) := by
  obtain ⟨a, h1, h2, h3, h4⟩ := h.at'.goE 1 (by simp) (by simp)
  exact ⟨a, h1, h2, h3, fun u e => ⟨h.ts.far (grown_set1 _ _ _) (h4 u e).at', h4 u e⟩⟩
theorem TsE.stop {w : World} {raw : List Int} {v : Value} {ts : List Tk} {l : List Int} {X : World} (h : TsE w raw v ts l X) : ∃ a : Nat, X.cell? ⟨w.heap.size, 1, none⟩ = some (.int .i64 a) ∧ X.frozen? ⟨w.heap.size, 1, none⟩ = false ∧ (a : Int) ≤ 1000002 ∧
    ∀ u, u = .int .i64 ((a : Int) + 2) → Ts w raw v ts (l.drop 2) (X.setCell ⟨w.heap.size, 1, none⟩ u) := by
  obtain ⟨a, h1, h2, h3, h4⟩ := h.ate.go2
  exact ⟨a, h1, h2, h3, fun u e => h.ts.far (grown_set1 _ _ _) (h4 u e)⟩

theorem size_setCell' (X : World) (a : Addr) (u : Value) : (X.setCell a u).heap.size = X.heap.size := by simp [World.setCell]
theorem cells_new_set (X : World) (a : Addr) (u : Value) (l : List Value) (ty : TypeId) : ∀ j y, l[j]? = some y → ((X.setCell a u).alloc (.cells l.toArray ty)).cell? ((⟨X.heap.size, 0, none⟩ : Addr).add j) = some y := by
  have := cells_new (X.setCell a u) l ty
  rw [size_setCell'] at this
  exact this
theorem begNum_first {c : Int} {r : List Int} (h : begNum (c :: r) = true) : (48 ≤ c ∧ c ≤ 57) ∨ c = 43 ∨ c = 45 ∨ c = 46 := by
  rw [begNum_eq, see_zero] at h
  split at h
  · omega
  · rw [Bool.or_eq_true, Bool.and_eq_true, isDigit_iff] at h
    rcases h with h | ⟨h, _⟩
    · exact .inl h
    · exact .inr (.inr (.inr (by simpa using h)))
theorem begName_first {c : Int} {r : List Int} (h : begName (c :: r) = true) : (97 ≤ c ∧ c ≤ 122) ∨ (65 ≤ c ∧ c ≤ 90) ∨ c = 95 ∨ 128 ≤ c ∨ c = 45 ∨ c = 92 := by
  have e := begName_eq (c :: r) 0
  rw [List.drop_zero] at e
  rw [e, see_zero] at h
  split at h
  · omega
  · rw [Bool.or_eq_true, nameStart_iff] at h
    rcases h with h | h
    · omega
    · unfold escAt at h
      rw [see_zero] at h
      have : c = 92 := by
        have := (Bool.and_eq_true _ _ ▸ (Bool.and_eq_true _ _ ▸ h).1).1
        simpa using this
      omega
theorem sign_first {c : Int} (h : 0 < sign c) : c = 58 ∨ c = 59 ∨ c = 44 ∨ c = 123 ∨ c = 125 ∨ c = 40 ∨ c = 41 ∨ c = 91 ∨ c = 93 := by
  unfold sign at h
  repeat' split at h
  all_goals omega
theorem sign_ge (c : Int) : 0 ≤ sign c := by
  unfold sign
  repeat' split
  all_goals omega
theorem fin_some {ts A : List Tk} {c : Int} {r L : List Int} {x : Tk} (hs : step nv (c :: r) = (some x, L)) (e : ts ++ toks nv (c :: r) = A) : (ts ++ [x]) ++ toks nv L = A := by
  rw [← e, toks_cons, hs]
  simp
theorem fin_none {ts A : List Tk} {c : Int} {r L : List Int} (hs : step nv (c :: r) = (none, L)) (e : ts ++ toks nv (c :: r) = A) : ts ++ toks nv L = A := by
  rw [← e, toks_cons, hs]
  simp
theorem fin_len {ts A : List Tk} {L : List Int} (e : ts ++ toks nv L = A) (h : A.length ≤ 1000000) : ts.length ≤ 1000000 := by
  rw [← e, List.length_append] at h
  omega

/-! ### the arms of the switch, out of the function's own code -/
def sndC : Code → Code
  | .seq _ b => b
  | c => c
def fstC : Code → Code
  | .seq a _ => a
  | c => c
def blkC : Code → Code
  | .block _ c => c
  | c => c
def lopC : Code → Code
  | .loop c => c
  | c => c
def thnC : Code → Code
  | .cond _ a _ => a
  | c => c
def elsC : Code → Code
  | .cond _ _ a => a
  | c => c
def sw (b : Code) : Code := blkC (sndC (sndC (sndC (blkC (sndC (lopC (blkC (fstC (sndC (sndC (sndC b)))))))))))
def nth (c : Code) : Nat → Code
  | 0 => c
  | k + 1 => elsC (sndC (nth c k))
def frag (f : Func) (k : Nat) : Option Code := f.body.map fun b => if k < 8 then thnC (sndC (nth (sw b) k)) else nth (sw b) 8
/-- What stands behind the test for strings. -/
def fragE (f : Func) : Option Code := f.body.map fun b => nth (sw b) 3
set_option maxRecDepth 100000 in
set_option maxHeartbeats 4000000 in
theorem arm_comment {x0 x1 x2 x6 x7 x8 x9 x10 x11 x12 x13 x14 x15 x16 x17 x18 x19 x20 x21 x22 x23 x24 x25 x26 x27 x28 x29 x30 x31 x32 x33 x34 x35 x36 x37 x38 x39 x40 x41 x42 x43 x44 x45 x46 x47 x48 x49 x50 x51 x52 x53 x54 x55 x56 x57 x58 x59 x60 x61 x62 x63 x64 x65 x66 x67 x68 x69 x70 x71 x72 x73 x74 x75 x76 x77 x78 x79 x80 x81 x82 x83 x84 x85 x86 x87 x88 x89 x90 x91 x92 x93 x94 x95 x96 x97 x98 x99 x100 x101 x102 x103 x104 x105 x106 x107 x108 x109 x110 x111 x112 x113 x114 x115 x116 x117 x118 x119 x120 x121 x122 x123 x124 x125 x126 x127 x128 x129 x130 x131 x132 x133 x134 x135 x136 x137 x138 x139 x140 x141 x142 x143 x144 x145 x146 x147 x148 x149 x150 x151 x152 x153 x154 x155 x156 x157 x158 x159 x160 x161 x162 x163 x164 x165 x166 x167 x168 x169 x170 x171 x172 x173 x174 x175 x176 x177 x178 x179 x180 x181 x182 x183 x184 x185 x186 x187 x188 x189 x190 x191 x192 x193 x194 x195 x196 x197 x198 x199 x200 x201 x202 x203 x204 x205 x206 x207 : Value} {w X : World} {raw r : List Int} {v : Value} {ts : List Tk} {c : Int} {code : Code} {Q : Exit → Act → World → Prop} (hcode : frag Tryd.f10 0 = some code)
    (hT : Ts w raw v ts (c :: 42 :: r) X) (_hb : ts.length ≤ 1000000) (hFin : ∀ {y45 y46 y47 y48 y49 y50 y51 y52 y53 y54 y55 y56 y57 y58 y59 y60 y61 y62 y63 y64 y65 y66 y67 y68 y69 y70 y71 y72 y73 y74 y75 y76 y77 y78 y79 y80 : Value} {W' : World}, Ts w raw v ts (skipC r) W' → Q .normal { tmps := #[x0, x1, x2, .pointer (some ⟨w.heap.size, 0, none⟩), v, .int .i64 c, x6, x7, x8, x9, x10, x11, x12, x13, x14, x15, x16, x17, x18, x19, x20, x21, x22, x23, x24, x25, x26, x27, x28, x29, x30, x31, x32, x33, x34, x35, x36, x37, x38, x39, x40, x41, x42, x43, x44, y45, y46, y47, y48, y49, y50, y51, y52, y53, y54, y55, y56, y57, y58, y59, y60, y61, y62, y63, y64, y65, y66, y67, y68, y69, y70, y71, y72, y73, y74, y75, y76, y77, y78, y79, y80, x81, x82, x83, x84, x85, x86, x87, x88, x89, x90, x91, x92, x93, x94, x95, x96, x97, x98, x99, x100, x101, x102, x103, x104, x105, x106, x107, x108, x109, x110, x111, x112, x113, x114, x115, x116, x117, x118, x119, x120, x121, x122, x123, x124, x125, x126, x127, x128, x129, x130, x131, x132, x133, x134, x135, x136, x137, x138, x139, x140, x141, x142, x143, x144, x145, x146, x147, x148, x149, x150, x151, x152, x153, x154, x155, x156, x157, x158, x159, x160, x161, x162, x163, x164, x165, x166, x167, x168, x169, x170, x171, x172, x173, x174, x175, x176, x177, x178, x179, x180, x181, x182, x183, x184, x185, x186, x187, x188, x189, x190, x191, x192, x193, x194, x195, x196, x197, x198, x199, x200, x201, x202, x203, x204, x205, x206, x207], defers := [] } W') :
    Code.wp Tryd.prog code Q { tmps := #[x0, x1, x2, .pointer (some ⟨w.heap.size, 0, none⟩), v, .int .i64 c, x6, x7, x8, x9, x10, x11, x12, x13, x14, x15, x16, x17, x18, x19, x20, x21, x22, x23, x24, x25, x26, x27, x28, x29, x30, x31, x32, x33, x34, x35, x36, x37, x38, x39, x40, x41, x42, x43, x44, x45, x46, x47, x48, x49, x50, x51, x52, x53, x54, x55, x56, x57, x58, x59, x60, x61, x62, x63, x64, x65, x66, x67, x68, x69, x70, x71, x72, x73, x74, x75, x76, x77, x78, x79, x80, x81, x82, x83, x84, x85, x86, x87, x88, x89, x90, x91, x92, x93, x94, x95, x96, x97, x98, x99, x100, x101, x102, x103, x104, x105, x106, x107, x108, x109, x110, x111, x112, x113, x114, x115, x116, x117, x118, x119, x120, x121, x122, x123, x124, x125, x126, x127, x128, x129, x130, x131, x132, x133, x134, x135, x136, x137, x138, x139, x140, x141, x142, x143, x144, x145, x146, x147, x148, x149, x150, x151, x152, x153, x154, x155, x156, x157, x158, x159, x160, x161, x162, x163, x164, x165, x166, x167, x168, x169, x170, x171, x172, x173, x174, x175, x176, x177, x178, x179, x180, x181, x182, x183, x184, x185, x186, x187, x188, x189, x190, x191, x192, x193, x194, x195, x196, x197, x198, x199, x200, x201, x202, x203, x204, x205, x206, x207], defers := [] } X := by
  obtain ⟨i0, hi, hz0, hz1, hz2⟩ := info_parts infoTk
  have hcode' := (Option.some.inj (show some _ = some code from hcode)).symm
  conv at hcode' => rhs; whnf
  subst hcode'
  clear hcode
  obtain ⟨a, ca, fa, ha, hst⟩ := hT.step2E
  clear hi hz0 hz1 hz2
  go_wp2
  have hE := hst _ rfl
  clear hst ca fa hT
  generalize World.setCell X _ _ = W6 at *
  obtain ⟨SK, hSK⟩ : ∃ SK, skipC r = SK := ⟨_, rfl⟩
  rw [hSK] at hFin
  go_loopw [] (fun wr => ∃ l', TsE w raw v ts l' wr ∧ skipC l' = SK) (fun wr => lenOf raw wr w.heap.size)
  case atStart => exact ⟨r, hE, hSK⟩
  case round =>
    clear hE hSK
    obtain ⟨l', hE, hk⟩ := hrel
    rename World => X
    have hm2 := hE.at'.lenOf
    have s0 := see0 hE.at'
    have s1 := see1 hE.at'
    have g0 : X.grownBy X none := World.grownBy.refl _ _
    cases l' with
    | nil =>
      have hk' : SK = [] := hk.symm
      subst hk'
      clear hk
      rw [see_nil] at s0
      go_wp2_with fail
      refine (s0 _ g0).mono ?_
      rintro e W1 ⟨rfl, g1⟩
      obtain ⟨a, ca, fa, ha, hst⟩ := (hE.kept g1).stop
      go_wp2
      first | exact hFin (hst _ rfl) | exact (hst _ rfl)
    | cons d r' =>
      have hc0 : 0 ≤ d := hE.at'.mem (List.mem_cons_self ..)
      rw [see_zero] at s0
      rw [see_succ] at s1
      go_wp2_with fail
      refine (s0 _ g0).mono ?_
      rintro e W1 ⟨rfl, g1⟩
      go_wp2_with fail
      refine (s0 _ g1).mono ?_
      rintro e W2 ⟨rfl, g2⟩
      by_cases h42 : d = 42
      · subst h42
        go_wp2_with fail
        refine (s1 _ g2).mono ?_
        rintro e W3 ⟨rfl, g3⟩
        by_cases h47 : see r' 0 = 47
        · have hk' : SK = r'.tail := by rw [← hk, skipC, if_pos ⟨rfl, h47⟩]
          subst hk'
          clear hk
          rw [h47]
          obtain ⟨a, ca, fa, ha, hst⟩ := (hE.kept g3).stop
          go_wp2
          have T9 := hst _ rfl
          rw [show (42 :: r').drop 2 = r'.tail by simp] at T9
          first | exact hFin T9 | exact T9
        · have HK : Hid (skipC r' = SK) := by show _ = _; rw [← hk, skipC, if_neg (fun e => h47 e.2)]
          clear hk
          obtain ⟨a, ca, fa, ha, hst⟩ := (hE.kept g3).step
          generalize see r' 0 = x at *
          have h47' : (x != 47) = true := by simpa using h47
          go_wp2
          have E9 := hst _ rfl
          have hm9 := E9.at'.lenOf
          refine ⟨?_, by rw [hm2, hm9]; simp⟩
          first
            | exact ⟨r', E9, HK⟩
            | (repeat apply Exists.intro
               exact ⟨⟨r', E9, HK⟩, rfl⟩)
      · have HK : Hid (skipC r' = SK) := by show _ = _; rw [← hk, skipC, if_neg (fun e => h42 e.1)]
        clear hk
        have h42' : (d != 42) = true := by simpa using h42
        obtain ⟨a, ca, fa, ha, hst⟩ := (hE.kept g2).step
        go_wp2
        have E9 := hst _ rfl
        have hm9 := E9.at'.lenOf
        refine ⟨?_, by rw [hm2, hm9]; simp⟩
        first
          | exact ⟨r', E9, HK⟩
          | (repeat apply Exists.intro
             exact ⟨⟨r', E9, HK⟩, rfl⟩)

set_option maxRecDepth 100000 in
set_option maxHeartbeats 4000000 in
theorem arm_white {x0 x1 x2 x6 x7 x8 x9 x10 x11 x12 x13 x14 x15 x16 x17 x18 x19 x20 x21 x22 x23 x24 x25 x26 x27 x28 x29 x30 x31 x32 x33 x34 x35 x36 x37 x38 x39 x40 x41 x42 x43 x44 x45 x46 x47 x48 x49 x50 x51 x52 x53 x54 x55 x56 x57 x58 x59 x60 x61 x62 x63 x64 x65 x66 x67 x68 x69 x70 x71 x72 x73 x74 x75 x76 x77 x78 x79 x80 x81 x82 x83 x84 x85 x86 x87 x88 x89 x90 x91 x92 x93 x94 x95 x96 x97 x98 x99 x100 x101 x102 x103 x104 x105 x106 x107 x108 x109 x110 x111 x112 x113 x114 x115 x116 x117 x118 x119 x120 x121 x122 x123 x124 x125 x126 x127 x128 x129 x130 x131 x132 x133 x134 x135 x136 x137 x138 x139 x140 x141 x142 x143 x144 x145 x146 x147 x148 x149 x150 x151 x152 x153 x154 x155 x156 x157 x158 x159 x160 x161 x162 x163 x164 x165 x166 x167 x168 x169 x170 x171 x172 x173 x174 x175 x176 x177 x178 x179 x180 x181 x182 x183 x184 x185 x186 x187 x188 x189 x190 x191 x192 x193 x194 x195 x196 x197 x198 x199 x200 x201 x202 x203 x204 x205 x206 x207 : Value} {w X : World} {raw r : List Int} {v : Value} {ts : List Tk} {c : Int} {code : Code} {Q : Exit → Act → World → Prop} (hcode : frag Tryd.f10 1 = some code)
    (hT : Ts w raw v ts r X) (hb : ts.length ≤ 1000000) (hFin : ∀ {y84 y85 y86 y87 y88 y89 y90 y91 y92 y93 y94 y95 y96 y97 v' : Value} {W' : World}, Ts w raw v' (ts ++ [⟨9, [], 0, false, 0⟩]) (r.dropWhile isWhite) W' → Q .normal { tmps := #[x0, x1, x2, .pointer (some ⟨w.heap.size, 0, none⟩), v', .int .i64 c, x6, x7, x8, x9, x10, x11, x12, x13, x14, x15, x16, x17, x18, x19, x20, x21, x22, x23, x24, x25, x26, x27, x28, x29, x30, x31, x32, x33, x34, x35, x36, x37, x38, x39, x40, x41, x42, x43, x44, x45, x46, x47, x48, x49, x50, x51, x52, x53, x54, x55, x56, x57, x58, x59, x60, x61, x62, x63, x64, x65, x66, x67, x68, x69, x70, x71, x72, x73, x74, x75, x76, x77, x78, x79, x80, x81, x82, x83, y84, y85, y86, y87, y88, y89, y90, y91, y92, y93, y94, y95, y96, y97, x98, x99, x100, x101, x102, x103, x104, x105, x106, x107, x108, x109, x110, x111, x112, x113, x114, x115, x116, x117, x118, x119, x120, x121, x122, x123, x124, x125, x126, x127, x128, x129, x130, x131, x132, x133, x134, x135, x136, x137, x138, x139, x140, x141, x142, x143, x144, x145, x146, x147, x148, x149, x150, x151, x152, x153, x154, x155, x156, x157, x158, x159, x160, x161, x162, x163, x164, x165, x166, x167, x168, x169, x170, x171, x172, x173, x174, x175, x176, x177, x178, x179, x180, x181, x182, x183, x184, x185, x186, x187, x188, x189, x190, x191, x192, x193, x194, x195, x196, x197, x198, x199, x200, x201, x202, x203, x204, x205, x206, x207], defers := [] } W') :
    Code.wp Tryd.prog code Q { tmps := #[x0, x1, x2, .pointer (some ⟨w.heap.size, 0, none⟩), v, .int .i64 c, x6, x7, x8, x9, x10, x11, x12, x13, x14, x15, x16, x17, x18, x19, x20, x21, x22, x23, x24, x25, x26, x27, x28, x29, x30, x31, x32, x33, x34, x35, x36, x37, x38, x39, x40, x41, x42, x43, x44, x45, x46, x47, x48, x49, x50, x51, x52, x53, x54, x55, x56, x57, x58, x59, x60, x61, x62, x63, x64, x65, x66, x67, x68, x69, x70, x71, x72, x73, x74, x75, x76, x77, x78, x79, x80, x81, x82, x83, x84, x85, x86, x87, x88, x89, x90, x91, x92, x93, x94, x95, x96, x97, x98, x99, x100, x101, x102, x103, x104, x105, x106, x107, x108, x109, x110, x111, x112, x113, x114, x115, x116, x117, x118, x119, x120, x121, x122, x123, x124, x125, x126, x127, x128, x129, x130, x131, x132, x133, x134, x135, x136, x137, x138, x139, x140, x141, x142, x143, x144, x145, x146, x147, x148, x149, x150, x151, x152, x153, x154, x155, x156, x157, x158, x159, x160, x161, x162, x163, x164, x165, x166, x167, x168, x169, x170, x171, x172, x173, x174, x175, x176, x177, x178, x179, x180, x181, x182, x183, x184, x185, x186, x187, x188, x189, x190, x191, x192, x193, x194, x195, x196, x197, x198, x199, x200, x201, x202, x203, x204, x205, x206, x207], defers := [] } X := by
  obtain ⟨i0, hi, hz0, hz1, hz2⟩ := info_parts infoTk
  have hcode' := (Option.some.inj (show some _ = some code from hcode)).symm
  conv at hcode' => rhs; whnf
  subst hcode'
  clear hcode
  obtain ⟨L2, hL2⟩ : ∃ L2, r.dropWhile isWhite = L2 := ⟨_, rfl⟩
  rw [hL2] at hFin
  go_wp2_with fail
  go_loopw [] (fun wr => ∃ l', Ts w raw v ts l' wr ∧ l'.dropWhile isWhite = L2) (fun wr => lenOf raw wr w.heap.size)
  case atStart => exact ⟨r, hT, hL2⟩
  case round =>
    clear hT hL2
    obtain ⟨l', hT, hk⟩ := hrel
    rename World => X
    have hm2 := hT.at'.lenOf
    have s0 := see0 hT.at'
    have wh := white_any (see l' 0)
    have g0 : X.grownBy X none := World.grownBy.refl _ _
    cases hw : isWhite (see l' 0) with
    | true =>
      obtain ⟨c2, r2, rfl⟩ : ∃ c2 r2, l' = c2 :: r2 := List.exists_cons_of_ne_nil (fun e => by rw [e] at hw; exact absurd hw (by decide))
      rw [hw] at wh
      rw [see_zero] at hw s0 wh
      have HK : Hid (r2.dropWhile isWhite = L2) := by show _ = _; rw [← hk, List.dropWhile_cons, if_pos hw]
      clear hk hw
      go_wp2_with fail
      refine (s0 _ g0).mono ?_
      rintro e W1 ⟨rfl, g1⟩
      go_wp2_with fail
      refine (wh _).mono ?_
      rintro e W1 ⟨rfl, rfl⟩
      obtain ⟨a, ca, fa, ha, hst⟩ := (hT.kept g1).step
      go_wp2
      have T9 := hst _ rfl
      have hm9 := T9.at'.lenOf
      refine ⟨?_, by rw [hm2, hm9]; simp⟩
      first
        | exact ⟨r2, T9, HK⟩
        | (repeat apply Exists.intro
           exact ⟨⟨r2, T9, HK⟩, rfl⟩)
    | false =>
      have hk' : l' = L2 := by
        rw [← hk]
        cases l' with
        | nil => rfl
        | cons c2 r2 => rw [see_zero] at hw; rw [List.dropWhile_cons, hw]; rfl
      subst hk'
      rw [hw] at wh
      clear hk hw
      go_wp2_with fail
      refine (s0 _ g0).mono ?_
      rintro e W1 ⟨rfl, g1⟩
      go_wp2_with fail
      refine (wh _).mono ?_
      rintro e W1 ⟨rfl, rfl⟩
      have T1 := hT.kept g1
      have hz := T1.size
      go_wp2_with (at_builtin; refine wpList_append_own _ rfl _ _ 29 rfl (w.heap.size + 1) 58 i0 (.agg #[.int .i64 0, .string ⟨#[]⟩, .int .i64 0, .bool false, .int .i64 0]) 5 48 Tryd.underlying29 hi hz0 hz1 hz2 rfl (by decide) _ _ _ rfl (World.ownsRow.alloc T1.row _) ⟨W1.heap.size, 0, none⟩ 1 1 (btCells (btOf ⟨9, [], 0, false, 0⟩)) rfl rfl (cells_new _ (btCells (btOf ⟨9, [], 0, false, 0⟩)) _) (btCells_one _) (by unfold maxLen; omega) (by omega) (by simp; omega) ?_; intro v' w' hown' hgrow' hnil')
      first | exact hFin (T1.push hgrow' hown') | exact T1.push hgrow' hown'

end Go.Proofs.YtkhgmobependiaaDoor.Ref
