/- For every two slices of bytes: the law tapestrierlaw1.TextParts returns true and leaves its arguments as they were; conditions: the library's two UTF-8 tables hold what its text lays (the card ties them to the program's text). -/
import Derived.Test.YtpbgefgoccmncaaDoorBack
import Derived.Test.YtpbgefgoccmncaaDoorAppSrc
import Derived.Test.YtpbgefgoccmncaaDoorOpen
namespace Go.Proofs.YtpbgefgoccmncaaDoor
open Go Go.ChangeShapes Go.WideShapes Go.ChangeAt Go.RowKit

theorem owns_below {X Y : World} {b : Nat} {e : TypeId} {size : Nat} {v : Value} {m : Nat} {xs : List Value} (h : X.ownsRow b e size v m xs) (hb : Below X.heap.size X Y) : Y.ownsRow b e size v m xs := by
  refine h.kept (row := none) ⟨hb.os, hb.tape, hb.output, hb.size, fun k hk _ => hb.block k hk⟩ ?_
  cases e : v.ownBlock
  · exact .inl rfl
  · exact .inr (by simp)

set_option maxRecDepth 100000 in
set_option maxHeartbeats 2000000 in
theorem textParts_main (w : World) (hT : Tabs w.heap.size w) (v : Value) (a : List UInt8) (hA : BytesAt w.heap.size w v a) (v' : Value) (b : List UInt8) (hB : BytesAt w.heap.size w v' b)
    (h1 : a.length ≤ 1000) (h2 : b.length ≤ 1000) (hend : ∀ u, a.getLast? = some u → u.toNat < 128) :
    Calls Tryd.prog 7 #[v, v'] w fun e w' => e = .returned (.bool true) ∧ Below w.heap.size w w' := by
  obtain ⟨i0, hi, hz0, hz1, hz2⟩ := info_parts infoInt
  obtain ⟨i5, hi5, hz50, hz51, hz52⟩ := info_parts infoByte
  have h0 := alive_any w hT
  have hparts := ipts_parts a b hend
  have hla := ipts_length_le a
  have hlb := ipts_length_le b
  have step : ∀ {x y : World}, Below w.heap.size w x → Below x.heap.size x y → Below w.heap.size w y := fun a b => a.trans (b.mono a.size)
  obtain ⟨p, cap, hv, _⟩ := hA.len
  obtain ⟨p', cap', hv', _⟩ := hB.len
  have hi1 : ¬ (1000 : Int) < a.length := by omega
  have hi2 : ¬ (1000 : Int) < b.length := by omega
  -- the last byte of a, where there is one
  have hl : a.length = 0 ∨ ∃ bk off u, p = some ⟨bk, off, none⟩ ∧ 0 < a.length ∧ a.length ≤ cap ∧ w.heap.size ≤ w.heap.size ∧ bk < w.heap.size ∧ u < 128 ∧ w.cell? ⟨bk, off + (a.length - 1), none⟩ = some (.int .u8 (u : Nat)) := by
    rcases hA with ⟨rfl, _⟩ | ⟨bk, off, c, e, e1, e2, e3, h⟩
    · exact .inl rfl
    · by_cases hz : a.length = 0
      · exact .inl hz
      · rw [hv] at e
        cases e
        have hne : a ≠ [] := fun e => hz (by rw [e]; rfl)
        have hg : a[a.length - 1]? = some (a.getLast hne) := by rw [← List.getLast?_eq_getElem?, List.getLast?_eq_some_getLast hne]
        exact .inr ⟨bk, off, _, rfl, by omega, e1, Nat.le_refl _, e3, hend _ (List.getLast?_eq_some_getLast hne), h _ _ hg⟩
  subst hv hv'
  go_enter Tryd.func7, Tryd.ntmps7
  go_wp2_with fail
  refine h0.mono ?_
  rintro e w1 ⟨rfl, b1⟩
  clear h0
  have A1 := (hA.below b1).mono b1.size
  have B1 := (hB.below b1).mono b1.size
  have T1 := (hT.below b1).mono b1.size
  have c1 := points_any _ a w1 A1 T1 (by omega)
  have HP : Hid (_ = _) := hparts
  clear hparts hend
  rcases hl with hz | ⟨bk, off, u, rfl, hpos, hcap, _, hbk, hu, hcell⟩
  · have hz' : ¬ (0 : Int) < a.length := by omega
    clear hz
    go_wp2_with fail
    refine c1.mono ?_
    clear c1
    rintro e w2 ⟨v2, rfl, r2, b2⟩
    have B2 := (B1.below b2).mono b2.size
    have T2 := (T1.below b2).mono b2.size
    have c2 := points_any _ b w2 B2 T2 (by omega)
    go_wp2_with fail
    refine c2.mono ?_
    clear c2
    rintro e w3 ⟨v3, rfl, r3, b3⟩
    have R2 := owns_below r2 b3
    have S3 := (IntsAt.of_owns r3 rfl).src
    have B12 := step b1 b2
    have B13 := step B12 b3
    have s1 := b1.size
    have s2 := b2.size
    have s3 := b3.size
    clear r2 r3 b2 b3 B2 T2 A1 B1 T1
    have K2 : Hid True := trivial
    have K3 : Hid True := trivial
    go_wp2_with (first
      | (at_builtin; refine wpList_append_src _ rfl _ _ 25 rfl w1.heap.size 3 i0 (.int .i64 0) 1 8 Tryd.underlying25 hi hz0 hz1 hz2 rfl (by decide) _ _ _ rfl R2 _ (ipts b).length ((ipts b).map (Value.int .i64)) rfl (by simp) S3 (ints_one _) (by unfold maxLen; omega) (by omega) (by omega) ?_
         intro v4 w4 r4 g4
         have B14 : Below w.heap.size w w4 := B13.grown g4 B13.size (fun j ej => Nat.le_trans s1 (R2.lt j ej).1)
         clear R2 S3)
      | (at_builtin; have _ := K2; refine wpList_append_src _ rfl _ _ 22 rfl w4.heap.size 5 i5 (.int .u8 0) 1 1 Tryd.underlying22 hi5 hz50 hz51 hz52 rfl (by decide) _ 0 [] rfl (World.ownsRow_nil _ _ _ _) _ a.length (ubytes a) rfl (by simp [ubytes]) (hA.below B14).src (ubytes_one _) (by unfold maxLen; omega) (by omega) (Nat.le_refl _) ?_
         clear K2
         intro v5 w5 r5 g5
         have B45 : Below w4.heap.size w4 w5 := (Below.refl _ w4).grown g5 (Nat.le_refl _) (fun j ej => by cases ej)
         have B15 := step B14 B45)
      | (at_builtin; have _ := K3; refine wpList_append_src _ rfl _ _ 22 rfl w4.heap.size 5 i5 (.int .u8 0) 1 1 Tryd.underlying22 hi5 hz50 hz51 hz52 rfl (by decide) _ _ _ rfl r5 _ b.length (ubytes b) rfl (by simp [ubytes]) (hB.below B15).src (ubytes_one _) (by unfold maxLen; omega) (by omega) B45.size ?_
         clear K3
         intro v6 w6 r6 g6
         have B46 : Below w4.heap.size w4 w6 := B45.grown g6 B45.size (fun j ej => (r5.lt j ej).1)
         have B16 := step B14 B46)
      | fail)
    have r6' : w6.ownsRow w4.heap.size 5 1 v6 (a ++ b).length (ubytes (a ++ b)) := by rw [ubytes_append, List.length_append]; simpa using r6
    have r4' : w4.ownsRow w1.heap.size 3 1 v4 (ipts a ++ ipts b).length ((ipts a ++ ipts b).map (Value.int .i64)) := by rw [List.map_append, List.length_append]; exact r4
    have A6 := BytesAt.of_owns r6' rfl
    have I4 := IntsAt.of_owns r4' rfl
    have T6 := (hT.below B16).mono B16.size
    have c7 := points_any _ (a ++ b) w6 A6 T6 (by rw [List.length_append]; omega)
    rw [show ipts (a ++ b) = _ from HP] at c7
    clear r6 r6' r4 r4' A6 r5 g4 g5 g6
    refine c7.mono ?_
    clear c7
    rintro e w7 ⟨v7, rfl, r7, b7⟩
    have I7 := IntsAt.of_owns r7 rfl
    have c8 := same_yes _ _ (ipts a ++ ipts b) w7 ((I4.below (B46.trans (b7.mono B46.size))).mono (Nat.le_trans B46.size b7.size)) I7 (by rw [List.length_append]; unfold maxLen; omega)
    have B17 := step B16 b7
    clear r7
    go_wp2_with fail
    refine c8.mono ?_
    clear c8
    rintro e w8 ⟨rfl, n8, rfl⟩
    have hbb := step B17 (below_drewN w7 n8)
    generalize w7.drewN n8 = w8 at *
    go_wp2
    go_ret
    exact ⟨rfl, hbb⟩
  · have hcell1 := (b1.cell (p := ⟨bk, off + (a.length - 1), none⟩) hbk).trans hcell
    have hpos' : (0 : Int) < a.length := by omega
    have hu' : ¬ (127 : Int) < (u : Nat) := by omega
    clear hcell
    go_wp2_with fail
    refine c1.mono ?_
    clear c1
    rintro e w2 ⟨v2, rfl, r2, b2⟩
    clear hcell1 hpos hpos' hu hu' hcap hbk
    have B2 := (B1.below b2).mono b2.size
    have T2 := (T1.below b2).mono b2.size
    have c2 := points_any _ b w2 B2 T2 (by omega)
    go_wp2_with fail
    refine c2.mono ?_
    clear c2
    rintro e w3 ⟨v3, rfl, r3, b3⟩
    have R2 := owns_below r2 b3
    have S3 := (IntsAt.of_owns r3 rfl).src
    have B12 := step b1 b2
    have B13 := step B12 b3
    have s1 := b1.size
    have s2 := b2.size
    have s3 := b3.size
    clear r2 r3 b2 b3 B2 T2 A1 B1 T1
    have K2 : Hid True := trivial
    have K3 : Hid True := trivial
    go_wp2_with (first
      | (at_builtin; refine wpList_append_src _ rfl _ _ 25 rfl w1.heap.size 3 i0 (.int .i64 0) 1 8 Tryd.underlying25 hi hz0 hz1 hz2 rfl (by decide) _ _ _ rfl R2 _ (ipts b).length ((ipts b).map (Value.int .i64)) rfl (by simp) S3 (ints_one _) (by unfold maxLen; omega) (by omega) (by omega) ?_
         intro v4 w4 r4 g4
         have B14 : Below w.heap.size w w4 := B13.grown g4 B13.size (fun j ej => Nat.le_trans s1 (R2.lt j ej).1)
         clear R2 S3)
      | (at_builtin; have _ := K2; refine wpList_append_src _ rfl _ _ 22 rfl w4.heap.size 5 i5 (.int .u8 0) 1 1 Tryd.underlying22 hi5 hz50 hz51 hz52 rfl (by decide) _ 0 [] rfl (World.ownsRow_nil _ _ _ _) _ a.length (ubytes a) rfl (by simp [ubytes]) (hA.below B14).src (ubytes_one _) (by unfold maxLen; omega) (by omega) (Nat.le_refl _) ?_
         clear K2
         intro v5 w5 r5 g5
         have B45 : Below w4.heap.size w4 w5 := (Below.refl _ w4).grown g5 (Nat.le_refl _) (fun j ej => by cases ej)
         have B15 := step B14 B45)
      | (at_builtin; have _ := K3; refine wpList_append_src _ rfl _ _ 22 rfl w4.heap.size 5 i5 (.int .u8 0) 1 1 Tryd.underlying22 hi5 hz50 hz51 hz52 rfl (by decide) _ _ _ rfl r5 _ b.length (ubytes b) rfl (by simp [ubytes]) (hB.below B15).src (ubytes_one _) (by unfold maxLen; omega) (by omega) B45.size ?_
         clear K3
         intro v6 w6 r6 g6
         have B46 : Below w4.heap.size w4 w6 := B45.grown g6 B45.size (fun j ej => (r5.lt j ej).1)
         have B16 := step B14 B46)
      | fail)
    have r6' : w6.ownsRow w4.heap.size 5 1 v6 (a ++ b).length (ubytes (a ++ b)) := by rw [ubytes_append, List.length_append]; simpa using r6
    have r4' : w4.ownsRow w1.heap.size 3 1 v4 (ipts a ++ ipts b).length ((ipts a ++ ipts b).map (Value.int .i64)) := by rw [List.map_append, List.length_append]; exact r4
    have A6 := BytesAt.of_owns r6' rfl
    have I4 := IntsAt.of_owns r4' rfl
    have T6 := (hT.below B16).mono B16.size
    have c7 := points_any _ (a ++ b) w6 A6 T6 (by rw [List.length_append]; omega)
    rw [show ipts (a ++ b) = _ from HP] at c7
    clear r6 r6' r4 r4' A6 r5 g4 g5 g6
    refine c7.mono ?_
    clear c7
    rintro e w7 ⟨v7, rfl, r7, b7⟩
    have I7 := IntsAt.of_owns r7 rfl
    have c8 := same_yes _ _ (ipts a ++ ipts b) w7 ((I4.below (B46.trans (b7.mono B46.size))).mono (Nat.le_trans B46.size b7.size)) I7 (by rw [List.length_append]; unfold maxLen; omega)
    have B17 := step B16 b7
    clear r7
    go_wp2_with fail
    refine c8.mono ?_
    clear c8
    rintro e w8 ⟨rfl, n8, rfl⟩
    have hbb := step B17 (below_drewN w7 n8)
    generalize w7.drewN n8 = w8 at *
    go_wp2
    go_ret
    exact ⟨rfl, hbb⟩

set_option maxRecDepth 100000 in
set_option maxHeartbeats 2000000 in
theorem textParts_walk (w : World) (hT : Tabs w.heap.size w) (v : Value) (a : List UInt8) (hA : BytesAt w.heap.size w v a) (v' : Value) (b : List UInt8) (hB : BytesAt w.heap.size w v' b) :
    Calls Tryd.prog 7 #[v, v'] w fun e w' => e = .returned (.bool true) ∧ Below w.heap.size w w' := by
  by_cases h1 : a.length ≤ 1000
  · by_cases h2 : b.length ≤ 1000
    · by_cases hend : ∀ u, a.getLast? = some u → u.toNat < 128
      · exact textParts_main w hT v a hA v' b hB h1 h2 hend
      · have hne : a ≠ [] := fun e => hend (by subst e; simp)
        have hbig : ¬ (a.getLast hne).toNat < 128 := fun h => hend (fun u hu => by rw [List.getLast?_eq_some_getLast hne] at hu; cases hu; exact h)
        have hg : a[a.length - 1]? = some (a.getLast hne) := by rw [← List.getLast?_eq_getElem?, List.getLast?_eq_some_getLast hne]
        have hpos := List.length_pos_iff.2 hne
        have h0 := alive_any w hT
        obtain ⟨p', cap', rfl, _⟩ := hB.len
        rcases hA.cases with ⟨rfl, _⟩ | ⟨bk, off, cap, rfl, e1, e2, e3, h⟩
        · exact absurd rfl hne
        · have hcell := h _ _ hg
          generalize (a.getLast hne).toNat = u at *
          have hi1 : ¬ (1000 : Int) < a.length := by omega
          have hi2 : ¬ (1000 : Int) < b.length := by omega
          have hpos' : (0 : Int) < a.length := by omega
          have hu' : (127 : Int) < (u : Nat) := by omega
          clear hT hA hB h hg hend
          go_enter Tryd.func7, Tryd.ntmps7
          go_wp2_with fail
          refine h0.mono ?_
          rintro e w1 ⟨rfl, b1⟩
          clear h0
          have hcell1 := (b1.cell (p := ⟨bk, off + (a.length - 1), none⟩) e3).trans hcell
          clear hcell
          go_wp2
          go_ret
          exact ⟨rfl, b1⟩
    · have h0 := alive_any w hT
      obtain ⟨p, cap, rfl, _⟩ := hA.len
      obtain ⟨p', cap', rfl, _⟩ := hB.len
      have hi1 : ¬ (1000 : Int) < a.length := by omega
      have hi2 : (1000 : Int) < b.length := by omega
      clear hT hA hB
      go_enter Tryd.func7, Tryd.ntmps7
      go_wp2_with fail
      refine h0.mono ?_
      rintro e w1 ⟨rfl, b1⟩
      clear h0
      go_wp2
      go_ret
      exact ⟨rfl, b1⟩
  · have h0 := alive_any w hT
    obtain ⟨p, cap, rfl, _⟩ := hA.len
    obtain ⟨p', cap', rfl, _⟩ := hB.len
    have hi1 : (1000 : Int) < a.length := by omega
    clear hT hA hB
    go_enter Tryd.func7, Tryd.ntmps7
    go_wp2_with fail
    refine h0.mono ?_
    rintro e w1 ⟨rfl, b1⟩
    clear h0
    go_wp2
    go_ret
    exact ⟨rfl, b1⟩

theorem textParts_met (os : Os) : laidMet Tryd.prog Rows.textPartsRow.laid ((laidIn (World.holding Tryd.prog os ⟨#[], #[], []⟩)).forCall (fun _ _ => 0) ⟨#[], #[.slice none 0 0, .slice none 0 0], []⟩).memory :=
  laidMet_of_run' 8 (by kernel_rfl) (by kernel_rfl)
theorem textParts_reads (os : Os) {H : Type} (enc : TypeId × Value → H) : ∃ places, DataW.whole enc Tryd.prog ((laidIn (World.holding Tryd.prog os ⟨#[], #[], []⟩)).forCall (fun _ _ => 0) ⟨#[], #[.slice none 0 0, .slice none 0 0], []⟩).memory Tryd.f7.params.toList Rows.textPartsSpec.vars false (#[.slice none 0 0, .slice none 0 0] : Array Value).toList 8 = some ([.nil, .nil], [], places) :=
  ⟨[], by kernel_rfl⟩

set_option maxRecDepth 100000 in
theorem textParts_lifted (os : Os) (started : os.Started) (H : Type) (enc : TypeId × Value → H) (F : Stop.Interp) :
    ReturnsInHanded {} Tryd.checked os 7 .any ((OpenSpec.ofChange Rows.textPartsSpec).preRow enc Tryd.prog Tryd.f7 Rows.textPartsRow.domain false Rows.textPartsRow.laid) (((OpenSpec.ofChange Rows.textPartsSpec).at F).post enc Tryd.prog Tryd.f7 false true false false) := by
  obtain ⟨places, hx⟩ := textParts_reads os enc
  refine returnsInHanded_of_row (C := Tryd.checked) (s := OpenSpec.ofChange Rows.textPartsSpec) ownNone started (by kernel_rfl) Tryd.func7
    (witness_row_at (enc := enc) (C := Tryd.checked) false (laidIn (World.holding Tryd.prog os ⟨#[], #[], []⟩)) #[.slice none 0 0, .slice none 0 0] rfl (by kernel_rfl) (by kernel_rfl) (by kernel_rfl)
      (OpenSpec.preRow_of_cond 8 hx (by kernel_rfl) (fun k hk => by cases hk) (by kernel_rfl) (textParts_met os))) ?_
  intro W base args ds gs before hval hW _ _ _ hL _ _
  have hW' := hW
  obtain ⟨p, q, hA0, hV, rfl, hfz, hnd⟩ := hW
  have hA : DataW.TrodAll enc Tryd.prog W 0 (fun _ => true) true Tryd.f7.params.toList args.toList ds p := hA0
  rw [Tryd.params7] at hA hval
  obtain ⟨v0, vs0, d0, ds0, p0, q0, hargs, rfl, rfl, h0, r0⟩ := trodAll_cons hA
  obtain ⟨v1, vs1, d1, ds1, p1, q1, rfl, rfl, rfl, h1, r1⟩ := trodAll_cons r0
  obtain ⟨rfl, rfl, rfl⟩ := trodAll_nil r1
  obtain rfl : args = #[v0, v1] := by cases args; simp_all
  obtain ⟨rfl, rfl⟩ := trodVars_none hV
  obtain ⟨a0, len0, cap0, rfl⟩ := okWide_slice Tryd.underlying22 (hval 0 22 v0 rfl rfl)
  have k0 := h0
  have lt0 : ∀ x ∈ p0, x.block < W.heap.size := by obtain ⟨m, hm⟩ := k0; exact DataW.trod_lt m _ _ _ hm
  obtain ⟨z0, w0⟩ := bytesAt_of_reads k0
  obtain ⟨a1, len1, cap1, rfl⟩ := okWide_slice Tryd.underlying22 (hval 1 22 v1 rfl rfl)
  have k1 := h1
  have lt1 : ∀ x ∈ p1, x.block < W.heap.size := by obtain ⟨m, hm⟩ := k1; exact DataW.trod_lt m _ _ _ hm
  obtain ⟨z1, w1⟩ := bytesAt_of_reads k1
  clear hA0
  refine (textParts_walk W (tabs_of_laid hL) _ z0 w0 _ z1 w1).mono fun e W' ⟨he, bel⟩ => ?_
  subst he
  exact ⟨_, rfl, _, _, _, [], _, [], hW', trodAll_mk1 (shut_bool Tryd.underlying4 _), (trodAll_cons_mk (Below.trod laidOut (by kernel_rfl) (of_decide_eq_true (by kernel_rfl)) k0 bel lt0) (trodAll_cons_mk (Below.trod laidOut (by kernel_rfl) (of_decide_eq_true (by kernel_rfl)) k1 bel lt1) trodAll_mk0)), rfl, bel.frame _, fun h => by cases h⟩

theorem textParts_said : Rows.TextPartsSaid :=
  OpenClaim.holds_of_cond 7 Tryd.f7 rfl rfl rfl rfl rfl rfl rfl ⟨rfl, rfl, rfl, rfl, rfl⟩ rfl rfl rfl rfl rfl (by kernel_rfl) Tryd.func7 (by kernel_rfl)
    (of_decide_eq_true (by kernel_rfl)) (by unfold Func.isWrapper; first | (rw [if_pos (by decide +kernel)]; kernel_rfl) | (rw [if_neg (by decide +kernel)]; exact ⟨rfl, rfl⟩))
    (fun os started H enc _ F => by rw [OpenClaim.pre_eq_preRow]; exact textParts_lifted os started H enc F)

theorem textParts_plain (f : FuncId) (fn : Func) (hf : Tryd.pinned.checked.prog.funcNamed "tapestrier/tapestrierlaw1.TextParts" = some f) (hfn : Tryd.pinned.checked.prog.funcs[f]? = some fn) :
    false = Tryd.pinned.checked.prog.looks [] ∧ ∀ (j : Nat) t, fn.params[j]? = some t → Tryd.pinned.checked.prog.wantsStandIn t = false := by
  obtain rfl : f = 7 := Option.some.inj ((show Tryd.prog.funcNamed "tapestrier/tapestrierlaw1.TextParts" = some 7 by kernel_rfl).symm.trans hf) |>.symm
  obtain rfl : fn = Tryd.f7 := (Option.some.inj (Tryd.func7.symm.trans hfn)).symm
  refine ⟨by kernel_rfl, fun j t ht => ?_⟩
  rw [Tryd.params7] at ht
  have hm : t ∈ [22] := by simpa using Array.mem_of_getElem? ht
  have hall : ([22].all fun u => !Tryd.prog.wantsStandIn u) = true := by kernel_rfl
  exact (show Tryd.prog.wantsStandIn t = false by simpa using List.all_eq_true.1 hall t hm)

theorem textParts_card : Rows.TextPartsCardSaid :=
  Claim7.holds_tied_plain_at .later [] _ _ _ _ textParts_said (fun _ h => by cases h) (by kernel_rfl) (fun _ h => by cases h) textParts_row_tie rfl ⟨rfl, rfl⟩ (by kernel_rfl) rfl textParts_plain (by kernel_rfl)
#print axioms textParts_card

end Go.Proofs.YtpbgefgoccmncaaDoor
