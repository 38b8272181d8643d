/- For every two slices of bytes: the law tapestrierlaw5.RulesParts returns true and leaves its arguments as they were; no condition. -/
import Derived.Test.YthljapneniikkaaRsAlive
import Derived.Test.YthljapneniikkaaRsRefC
import Derived.Test.YthljapneniikkaaRsSame
import Derived.Test.YthljapneniikkaaBsG
import Derived.Test.YthljapneniikkaaRsArgs
namespace Go.Proofs.Ythljapneniikkaa
open Go Go.ChangeShapes Go.WideShapes Go.ChangeAt Go.RowKit

/-- A row that the call owns, as a source. -/
theorem ownsSrc {X : World} {b : Nat} {e : TypeId} {s : Nat} {v : Value} {m : Nat} {xs : List Value} (h : X.ownsRow b e s v m xs) :
    (v = .slice none 0 0 ∧ m = 0) ∨ ∃ ad c, v = .slice (some ad) m c ∧ ∀ j u, xs[j]? = some u → X.cell? (ad.add j) = some u := by
  rcases h.2 with ⟨hv, hm⟩ | ⟨g, cap, cur, hv, hg, hb, h1, h2, h3, h4⟩
  · exact .inl ⟨hv, hm⟩
  · refine .inr ⟨_, cap, hv, fun j u hj => ?_⟩
    rw [addr_add, cell_of_block hb, Nat.zero_add]
    rw [← h4, List.getElem?_take] at hj
    split at hj
    · simpa using hj
    · cases hj
def markR : List Bt := [⟨1, ⟨#[113]⟩, 0, false, 0⟩, ⟨14, ⟨#[]⟩, 0, false, 0⟩, ⟨15, ⟨#[]⟩, 0, false, 0⟩]
def rwCells (vs : List (Value × Value)) : List Value := vs.flatMap fun p => [p.1, p.2]
theorem rwLen : ∀ vs : List (Value × Value), (rwCells vs).length = vs.length * 2
  | [] => rfl
  | q :: vs => by
    have e : rwCells (q :: vs) = q.1 :: q.2 :: rwCells vs := rfl
    rw [e, List.length_cons, List.length_cons, rwLen vs, List.length_cons]
    omega
theorem rwOne {b : Nat} {W : World} {v : Value} {rs : List Rw} {vs : List (Value × Value)} (h : RawsAt b W v rs vs) : ∀ u ∈ rwCells vs, u.oneCell' = true := fun u hu => by
  obtain ⟨q, hq, hu⟩ := List.mem_flatMap.1 hu
  obtain ⟨j, hj, rfl⟩ := List.getElem_of_mem hq
  have hj2 : j < rs.length := by rw [← h.len]; exact hj
  obtain ⟨e1, e2⟩ := h.each j _ _ (List.getElem?_eq_getElem hj) (List.getElem?_eq_getElem hj2)
  obtain ⟨p1, c1, f1⟩ := Stk_form e1
  obtain ⟨p2, c2, f2⟩ := Stk_form e2
  simp [f1, f2] at hu
  rcases hu with rfl | rfl <;> rfl
theorem rules_len (l : List Bt) : (rules l).length ≤ l.length := by
  have key : ∀ (n : Nat) (l : List Bt), l.length ≤ n → (rules l).length ≤ l.length := by
    intro n
    induction n with
    | zero =>
      intro l hl
      obtain rfl : l = [] := List.length_eq_zero_iff.1 (by omega)
      exact Nat.le_refl _
    | succ n ih =>
      intro l hl
      cases l with
      | nil => exact Nat.le_refl _
      | cons t r =>
        rw [List.length_cons] at hl ⊢
        by_cases h9 : t.kind = 9
        · rw [rules_white h9]
          have := ih r (by omega)
          omega
        · by_cases h2 : t.kind = 2
          · rw [rules_at h2]
            have := ih (r.drop (upto isStop (kds r) + run [] ((kds r).drop (upto isStop (kds r))))) (by rw [List.length_drop]; omega)
            rw [List.length_drop] at this
            omega
          · by_cases hu : upto is14 (kds (t :: r)) = (t :: r).length
            · rw [rules_none h9 h2 hu]
              simp
            · rw [rules_one h9 h2 hu, List.length_cons]
              have := ih ((t :: r).drop (upto is14 (kds (t :: r)) + 1 + (upto is15' (kds ((t :: r).drop (upto is14 (kds (t :: r)) + 1))) + 1))) (by rw [List.length_drop, List.length_cons]; omega)
              rw [List.length_drop, List.length_cons] at this
              omega
  exact key l.length l (Nat.le_refl _)

set_option maxRecDepth 100000 in
set_option maxHeartbeats 4000000 in
theorem rulesParts_walk (w : World) (va : Value) (al : List UInt8) (hva : BytesAt w.heap.size w va al) (vb : Value) (bs : List UInt8) (hvb : BytesAt w.heap.size w vb bs) :
    Calls Try.prog 3 #[va, vb] w fun e w' => e = .returned (.bool true) ∧ Below w.heap.size w w' := by
  have h0 := alive5_any w
  obtain ⟨i0, hi, hz0, hz1, hz2⟩ := info_parts infoTk5
  obtain ⟨j0, ji, jz0, jz1, jz2⟩ := info_parts infoRaw
  obtain ⟨p, cap, rfl, _⟩ := hva.len
  obtain ⟨p', cap', rfl, _⟩ := hvb.len
  go_enter Try.func3, Try.ntmps3
  go_wp2_with fail
  refine h0.mono ?_
  clear h0
  rintro e w1 ⟨rfl, b1⟩
  by_cases hn : 800 < al.length
  · have hni : (800 : Int) < (al.length : Int) := by omega
    clear hva hvb
    go_wp2
    go_ret
    exact ⟨rfl, b1⟩
  have hni : ¬ (800 : Int) < (al.length : Int) := by omega
  by_cases hn' : 800 < bs.length
  · have hni' : (800 : Int) < (bs.length : Int) := by omega
    clear hva hvb
    go_wp2
    go_ret
    exact ⟨rfl, b1⟩
  have hni' : ¬ (800 : Int) < (bs.length : Int) := by omega
  have hof := of_any _ al w1 ((hva.below b1).mono b1.size) (by omega)
  have hofb := fun W (h : Below w.heap.size w W) => of_any _ bs W ((hvb.below h).mono h.size) (by omega)
  clear hva hvb
  go_wp2_with fail
  refine hof.mono ?_
  clear hof
  rintro e w3 ⟨v3, rfl, hr3, b2⟩
  have hTl0 := tksB_len al
  have hBl0 := tksB_len bs
  generalize tksB al = T at *
  generalize tksB bs = B at *
  have b3 := below_next b1 b2
  have hT := BtsAt.of_owns hr3 rfl
  have hTl : T.length ≤ 800 := by omega
  have hBl : B.length ≤ 800 := by omega
  clear hr3 hTl0 hBl0
  have hM4 := cells_new w3 (btsCells markR) 27
  have b4 : Below w3.heap.size w3 (w3.alloc (.cells (btsCells markR).toArray 27)) := (Below.refl _ w3).alloc (Nat.le_refl _) _
  have hs4 : (w3.alloc (.cells (btsCells markR).toArray 27)).heap.size = w3.heap.size + 1 := World.size_alloc _ _
  have hT4 := hT.next b4
  go_upto_region 6 with fail
  change Code.wp _ _ _ _ (w3.alloc (.cells (btsCells markR).toArray 27))
  generalize w3.alloc (.cells (btsCells markR).toArray 27) = w4 at *
  have b04 := below_next b3 b4
  have hsrcT := hT4.src
  have hml : (btsCells markR).length = 3 * 5 := rfl
  go_wp2_with (first
    | (at_builtin; refine wpList_append_src _ rfl _ _ 24 rfl w4.heap.size 27 i0 (.agg #[.int .i64 0, .string ⟨#[]⟩, .int .i64 0, .bool false, .int .i64 0]) 5 48 Try.underlying24 hi hz0 hz1 hz2 rfl (by decide) _ 0 [] rfl (World.ownsRow_nil _ _ _ _) _ T.length (btsCells T) rfl (btsCells_length T) hsrcT (btsCells_one T) (by unfold maxLen; omega) (by omega) (Nat.le_refl _) ?_; intro v5 w5 hown5 hgrow5; rw [Nat.zero_add, List.nil_append] at hown5; have b5 : Below w4.heap.size w4 w5 := (Below.refl _ _).grown hgrow5 (Nat.le_refl _) (fun r e => by cases e))
    | (at_builtin; refine wpList_append_own _ rfl _ _ 24 rfl w4.heap.size 27 i0 (.agg #[.int .i64 0, .string ⟨#[]⟩, .int .i64 0, .bool false, .int .i64 0]) 5 48 Try.underlying24 hi hz0 hz1 hz2 rfl (by decide) _ T.length (btsCells T) rfl hown5 ⟨w3.heap.size, 0, none⟩ 3 3 (btsCells markR) rfl hml (fun j u hj => by have := hM4 j u hj; rw [addr_add] at this ⊢; exact (b5.cell (p := ⟨w3.heap.size, 0 + j, none⟩) (show w3.heap.size < _ by omega)).trans this) (btsCells_one markR) (by unfold maxLen; omega) (by omega) (by have := b5.size; omega) ?_; intro v6 w6 hown6 hgrow6 hnil6))
  have b6 : Below w4.heap.size w4 w6 := b5.grown hgrow6 b5.size (fun j e => (hown5.lt j e).1)
  have b06 := below_next b04 b6
  have hv6 : BtsAt w6.heap.size w6 v6 (T ++ markR) := BtsAt.of_owns (b := w4.heap.size) (m := T.length + 3) (by rw [btsCells_append]; exact hown6) (by simp [markR])
  have h7 := refRules_any v6 (T ++ markR) w6 hv6 (by simp [markR]; omega)
  have hT6 := hT4.next b6
  have hfact : ownMark markR T → rules (T ++ B) = rules T ++ rules B := fun h => rules_app rfl rfl rfl _ T (Nat.le_refl _) h B
  have hdl1 : (rules (T ++ markR)).length ≤ 803 := Nat.le_trans (rules_len _) (by simp [markR]; omega)
  have hdl2 : (rules T).length ≤ 800 := Nat.le_trans (rules_len _) hTl
  clear hown5 hgrow5 hown6 hgrow6 hnil6 hsrcT hM4 hml b5 hv6 hT4 hs4 b4
  refine h7.mono ?_
  clear h7
  rintro e w7 ⟨v7, rfl, ⟨vs, hR⟩, b7⟩
  have b07 := below_next b06 b7
  have hT7 := hT6.next b7
  have hOM : ∀ r : Rw, (rules (T ++ markR)).getLast? = some r → r.1.length = 1 → (rules (T ++ markR)).length = (rules T).length + 1 → ownMark markR T := fun r h1 h2 h3 => ⟨h3, fun r' h' => by rw [h1] at h'; cases h'; exact h2⟩
  generalize rules (T ++ markR) = L at *
  by_cases hq0 : L = []
  · subst hq0
    obtain ⟨p7, cap7, rfl⟩ := hR.form
    clear hR hfact hOM
    go_wp2
    go_ret
    exact ⟨rfl, b07⟩
  obtain ⟨ini, q, rfl⟩ : ∃ a t, L = a ++ [t] := ⟨L.dropLast, L.getLast hq0, (List.dropLast_concat_getLast hq0).symm⟩
  obtain ⟨p7, cap7, rfl⟩ := hR.form
  obtain ⟨bk, off, q1, c1, q2, c2, rfl, a0, a1, _, _⟩ := hR.get (k := ini.length) (r := q) (by simp)
  have hOM2 := hOM q (by simp)
  rw [show (ini ++ [q]).length = ini.length + 1 by simp] at *
  have hz : ¬ (ini.length : Int) + 1 = 0 := by omega
  have hz' : ((ini.length : Int) + 1 == 0) = false := by simpa using hz
  have hsb : IntKind.i64.wrap ((ini.length : Int) + 1 - 1) = (ini.length : Int) := by rw [IntKind.wrap_i64]; omega
  have hsb2 : IntKind.i64.wrap (ini.length : Int) = (ini.length : Int) := by rw [IntKind.wrap_i64]; omega
  have hlt3 : (ini.length : Int) < (ini.length : Int) + 1 := by omega
  obtain ⟨x1, x2⟩ := q
  simp only at a0 a1 hOM2
  clear hR hOM hq0
  by_cases hp1 : x1.length = 1
  · rw [hp1] at a0
    have HO := hOM2 hp1
    clear hOM2
    by_cases hp2 : x2.length = 0
    · rw [hp2] at a1
      have h8 := refRules_any v3 T w7 hT7 (by omega)
      go_wp2_with fail
      refine h8.mono ?_
      clear h8
      rintro e w8 ⟨v8, rfl, ⟨vs2, hR2⟩, b8⟩
      have b08 := below_next b07 b8
      have hT8 := hT7.next b8
      obtain ⟨p8, cap8, rfl⟩ := hR2.form
      clear a0 a1 hR2
      by_cases hlen : ini.length + 1 = (rules T).length + 1
      · have HF := hfact (HO hlen)
        have hleni : ((ini.length : Int) + 1) = (((rules T).length : Int) + 1) := by omega
        clear hfact HO
        have hsrc8 := hT8.src
        go_wp2_with (at_builtin; refine wpList_append_src _ rfl _ _ 24 rfl w8.heap.size 27 i0 (.agg #[.int .i64 0, .string ⟨#[]⟩, .int .i64 0, .bool false, .int .i64 0]) 5 48 Try.underlying24 hi hz0 hz1 hz2 rfl (by decide) _ 0 [] rfl (World.ownsRow_nil _ _ _ _) _ T.length (btsCells T) rfl (btsCells_length T) hsrc8 (btsCells_one T) (by unfold maxLen; omega) (by omega) (Nat.le_refl _) ?_; intro v9 w9 hown9 hgrow9; rw [Nat.zero_add, List.nil_append] at hown9)
        have b9 : Below w8.heap.size w8 w9 := (Below.refl _ _).grown hgrow9 (Nat.le_refl _) (fun r e => by cases e)
        have b09 := below_next b08 b9
        have h10 := hofb w9 b09
        refine h10.mono ?_
        clear h10
        rintro e w10 ⟨v10, rfl, hr10, b10⟩
        have hno : ∀ x : Value, x.ownBlock = none ∨ x.ownBlock ≠ none := fun x => by
          cases x.ownBlock with
          | none => exact .inl rfl
          | some j => exact .inr (by simp)
        have hown10 := hown9.kept (grown_of_below' b10 none) (hno _)
        have hsrc10 := ownsSrc hr10
        have hs810 := Nat.le_trans b9.size b10.size
        go_wp2_with (at_builtin; refine wpList_append_src _ rfl _ _ 24 rfl w8.heap.size 27 i0 (.agg #[.int .i64 0, .string ⟨#[]⟩, .int .i64 0, .bool false, .int .i64 0]) 5 48 Try.underlying24 hi hz0 hz1 hz2 rfl (by decide) _ T.length (btsCells T) rfl hown10 _ B.length (btsCells B) rfl (btsCells_length B) hsrc10 (btsCells_one B) (by unfold maxLen; omega) (by omega) hs810 ?_; intro v11 w11 hown11 hgrow11)
        have b11 : Below w8.heap.size w8 w11 := (b9.trans (b10.mono b9.size)).grown hgrow11 hs810 (fun j e => (hown10.lt j e).1)
        have b011 := below_next b08 b11
        have hT11 := hT8.next b11
        have hv11 : BtsAt w11.heap.size w11 v11 (T ++ B) := BtsAt.of_owns (b := w8.heap.size) (m := T.length + B.length) (by rw [btsCells_append]; exact hown11) (by simp)
        have h12 := parse_any v11 (T ++ B) w11 hv11 (by simp; omega)
        clear hown9 hgrow9 hr10 hown10 hsrc10 hsrc8 hown11 hgrow11 hv11 b9 b10 b09 hs810
        refine h12.mono ?_
        clear h12
        rintro e w12 ⟨v12, rfl, ⟨vm, hRm⟩, b12⟩
        have b012 := below_next b011 b12
        have hT12 := hT11.next b12
        have h13 := parse_any v3 T w12 hT12 (by omega)
        go_wp2_with fail
        refine h13.mono ?_
        clear h13
        rintro e w13 ⟨v13, rfl, ⟨vx, hRx⟩, b13⟩
        have b013 := below_next b012 b13
        have h14 := hofb w13 b013
        go_wp2_with fail
        refine h14.mono ?_
        clear h14
        rintro e w14 ⟨v14, rfl, hr14, b14⟩
        have b014 := below_next b013 b14
        have h15 := parse_any v14 B w14 (BtsAt.of_owns hr14 rfl) (by omega)
        go_wp2_with fail
        refine h15.mono ?_
        clear h15 hr14
        rintro e w15 ⟨v15, rfl, ⟨vy, hRy⟩, b15⟩
        have b015 := below_next b014 b15
        have hRm15 := hRm.kept (grown_of_below' (below_next (below_next b13 b14) b15) none)
        have hRx15 := hRx.kept (grown_of_below' (below_next b14 b15) none)
        have hlx0 := hRx.len
        have hly0 := hRy.len
        have hlx : vx.length ≤ 800 := by omega
        have hly : vy.length ≤ 800 := by have := rules_len B; omega
        have rx15 : w15.ownsRow w12.heap.size 31 2 v13 vx.length (rwCells vx) := by rw [hlx0]; exact hRx15.row
        have ry15 : w15.ownsRow w14.heap.size 31 2 v15 vy.length (rwCells vy) := by rw [hly0]; exact hRy.row
        have hsx := ownsSrc rx15
        have hox := rwOne hRx15
        have hoy := rwOne hRy
        go_wp2_with (first
          | (at_builtin; refine wpList_append_src _ rfl _ _ 28 rfl w15.heap.size 31 j0 (.agg #[.slice none 0 0, .slice none 0 0]) 2 48 Try.underlying28 ji jz0 jz1 jz2 rfl (by decide) _ 0 [] rfl (World.ownsRow_nil _ _ _ _) _ vx.length (rwCells vx) rfl (rwLen vx) hsx hox (by unfold maxLen; omega) (by omega) (Nat.le_refl _) ?_; intro v16 w16 hown16 hgrow16; rw [Nat.zero_add, List.nil_append] at hown16; have b16 : Below w15.heap.size w15 w16 := (Below.refl _ _).grown hgrow16 (Nat.le_refl _) (fun r e => by cases e); have hsy := ownsSrc (ry15.kept (grown_of_below' b16 none) (hno _)))
          | (at_builtin; refine wpList_append_src _ rfl _ _ 28 rfl w15.heap.size 31 j0 (.agg #[.slice none 0 0, .slice none 0 0]) 2 48 Try.underlying28 ji jz0 jz1 jz2 rfl (by decide) _ vx.length (rwCells vx) rfl hown16 _ vy.length (rwCells vy) rfl (rwLen vy) hsy hoy (by unfold maxLen; omega) (by omega) (by have := b16.size; omega) ?_; intro v17 w17 hown17 hgrow17))
        have b17 : Below w15.heap.size w15 w17 := b16.grown hgrow17 b16.size (fun j e => (hown16.lt j e).1)
        have b017 := below_next b015 b17
        have hRm17 := hRm15.kept (grown_of_below' b17 none)
        have hRx17 := hRx15.kept (grown_of_below' b17 none)
        have hRy17 := hRy.kept (grown_of_below' b17 none)
        have hR17 : RawsAt 0 w17 v17 (rules (T ++ B)) (vx ++ vy) := by
          rw [HF]
          refine ⟨?_, by simp [hlx0, hly0], fun j q r hq hr => ?_⟩
          · rw [List.length_append, List.flatMap_append, ← hlx0, ← hly0]
            exact owns_base hown17 (Nat.zero_le _)
          · by_cases hj : j < vx.length
            · rw [List.getElem?_append_left hj] at hq
              rw [List.getElem?_append_left (by omega)] at hr
              exact ⟨owns_base (hRx17.each j q r hq hr).1 (Nat.zero_le _), owns_base (hRx17.each j q r hq hr).2 (Nat.zero_le _)⟩
            · rw [List.getElem?_append_right (by omega)] at hq
              rw [List.getElem?_append_right (by omega), ← hlx0] at hr
              exact ⟨owns_base (hRy17.each _ q r hq hr).1 (Nat.zero_le _), owns_base (hRy17.each _ q r hq hr).2 (Nat.zero_le _)⟩
        have h18 := sameRaws_yes v12 v17 (rules (T ++ B)) vm (vx ++ vy) _ _ w17 hRm17 hR17
        clear hRm hRx hRy hRm15 hRx15 hRm17 hRx17 hRy17 hR17 hown16 hgrow16 hown17 hgrow17 hsx hsy hox hoy HF rx15 ry15 hlx0 hly0
        refine h18.mono ?_
        clear h18
        rintro e w18 ⟨rfl, n, rfl⟩
        go_wp2
        go_ret
        exact ⟨rfl, below_next b017 (below_drewN _ _)⟩
      · have hleni : ¬ ((ini.length : Int) + 1) = (((rules T).length : Int) + 1) := by omega
        have hleni' : ((ini.length : Int) + 1 != ((rules T).length : Int) + 1) = true := by rw [bne_iff_ne]; exact hleni
        clear hfact HO
        go_wp2
        go_ret
        exact ⟨rfl, b08⟩
    · have hp2' : ((x2.length : Int) != 0) = true := by rw [bne_iff_ne]; omega
      clear hfact HO
      go_wp2
      go_ret
      exact ⟨rfl, b07⟩
  · have hp1' : ((x1.length : Int) != 1) = true := by rw [bne_iff_ne]; omega
    clear hfact hOM2
    go_wp2
    go_ret
    exact ⟨rfl, b07⟩


set_option maxRecDepth 100000 in
theorem rulesParts_lifted (os : Os) (started : os.Started) (H : Type) (enc : TypeId × Value → H) :
    ReturnsInHanded {} Try.checked os 3 .any (Rows.rulesPartsSpec.pre6 enc Try.prog Try.f3 Rows.rulesPartsRow.domain false) (Rows.rulesPartsSpec.post enc Try.prog Try.f3 false true false false) := by
  refine returnsInHanded_of_change_sized (C := Try.checked) ownNone started (by kernel_rfl) Try.func3
    (ChangeSpec.witness6 (enc := enc) (C := Try.checked) false ⟨#[], #[.slice none 0 0, .slice none 0 0], []⟩ 8 (by kernel_rfl) (by kernel_rfl) (by kernel_rfl) (by kernel_rfl)) ?_
  intro W base args ds gs before hval hW _ hsz0 _
  have hW' := hW
  obtain ⟨p, q, hA0, hV, rfl, hfz, hnd⟩ := hW
  have hA : DataW.TrodAll enc Try.prog W 0 (fun _ => true) true Try.f3.params.toList args.toList ds p := hA0
  rw [Try.params3] at hA hval hsz0
  obtain ⟨v0, vs0, d0, ds0, p0, q0, hargs, rfl, rfl, h0, r0⟩ := trodAll_cons hA
  obtain ⟨v1, vs1, d1, ds1, p1, q1, rfl, rfl, rfl, h1, r1⟩ := trodAll_cons r0
  obtain ⟨rfl, rfl, rfl⟩ := trodAll_nil r1
  obtain rfl : args = #[v0, v1] := by cases args; simp_all
  obtain ⟨rfl, rfl⟩ := trodVars_none hV
  obtain ⟨a0, len0, cap0, rfl⟩ := okWide_slice Try.underlying22 (hval 0 22 v0 rfl rfl)
  have k0 := h0
  have lt0 : ∀ x ∈ p0, x.block < W.heap.size := by obtain ⟨m, hm⟩ := k0; exact DataW.trod_lt m _ _ _ hm
  obtain ⟨z0, w0⟩ := bytesAt_of_reads k0
  obtain ⟨a1, len1, cap1, rfl⟩ := okWide_slice Try.underlying22 (hval 1 22 v1 rfl rfl)
  have k1 := h1
  have lt1 : ∀ x ∈ p1, x.block < W.heap.size := by obtain ⟨m, hm⟩ := k1; exact DataW.trod_lt m _ _ _ hm
  obtain ⟨z1, w1⟩ := bytesAt_of_reads k1
  clear hA0
  refine (rulesParts_walk W _ z0 w0 _ z1 w1).mono fun e W' ⟨he, bel⟩ => ?_
  subst he
  exact ⟨_, rfl, _, _, _, [], _, [], hW', trodAll_mk1 (shut_bool Try.underlying4 _), (trodAll_cons_mk (Below.trod laidOut (by kernel_rfl) (of_decide_eq_true (by kernel_rfl)) k0 bel lt0) (trodAll_cons_mk (Below.trod laidOut (by kernel_rfl) (of_decide_eq_true (by kernel_rfl)) k1 bel lt1) trodAll_mk0)), rfl, bel.frame _, fun h => by cases h⟩

theorem rulesParts_said : Rows.RulesPartsSaid :=
  OpenClaim.holds_of_wide 3 Try.f3 rfl rfl rfl rfl rfl rfl rfl ⟨rfl, rfl, rfl, rfl, rfl⟩ rfl rfl rfl rfl rfl (by kernel_rfl) Try.func3 (by kernel_rfl)
    (of_decide_eq_true (by kernel_rfl)) (by unfold Func.isWrapper; first | (rw [if_pos (by decide +kernel)]; kernel_rfl) | (rw [if_neg (by decide +kernel)]; exact ⟨rfl, rfl⟩))
    (fun os started H enc _ => rulesParts_lifted os started H enc)
#print axioms rulesParts_said


end Go.Proofs.Ythljapneniikkaa
