/- package match: list at every spot. -/
import Derived.Test.YtgjfapdnobhkcabMtListB
namespace Go.Proofs.Ytgjfapdnobhkcab.Mt
open Go Go.RowKit Dm

set_option maxRecDepth 100000 in
set_option maxHeartbeats 8000000 in
theorem list_any (E : Env) (hE : EnvOk E) (γ : Ghost) (W : World) (hI : Inv E γ W) (A : Nat) (s : Sel) (pv : Value) (f : Nat) (hA : γ A = some (.asked s pv f)) (k j : Nat) (p : Pt) (q : Ps) (hp : s[k]? = some p) (hq : p.2.pss[j]? = some q) (hls : listed q = true)
    (hj : j < 1099511627776) (hql : q.list.length ≤ 8796093022208) (d : Nat) (xl : Value) (hS : SelsAt d E.n₀ E.w₀ xl q.list) :
    Calls Try.prog 79 #[.pointer (some ⟨A, 0, none⟩), .agg #[.int .i64 k, .int .i64 j], xl] W fun r W' => ∃ B γ', r = .returned (wide B q.list.length) ∧ γ' B = some (.ptrs A k j) ∧ Step E γ W γ' W' := by
  obtain ⟨_, hfit, fv, lv, kA, hfv, hlv⟩ := hI.asked hA
  have hs50 := fits_len hfit
  have hk : k < 50 := by have := (List.getElem?_eq_some_iff.1 hp).1; omega
  obtain ⟨f', hf, hfits⟩ := fits_list hfit hp hq hls
  obtain ⟨pl, cl, rfl⟩ := SelsAt.len hS
  obtain ⟨w1, hw1⟩ : ∃ w1, W.alloc (.cells #[.int .i64 k, .int .i64 j] 110) = w1 := ⟨_, rfl⟩
  have b1 : Below W.heap.size W w1 := by rw [← hw1]; exact (Below.refl _ _).alloc (Nat.le_refl _) _
  have sp1 : Blk w1 W.heap.size 110 [.int .i64 k, .int .i64 j] := by rw [← hw1]; exact Blk.new W 110 _
  have s1 : w1.heap.size = W.heap.size + 1 := by rw [← hw1]; simp
  have st1 := hI.step b1
  have kA1 := kA.next b1
  have lowW : E.n₀ ≤ W.heap.size := hI.low.size
  have ltA := hI.lt hA
  have look : (∀ n, (Instr.lookup 81 lv (.agg #[.int .i64 k, .int .i64 j]) true).run Try.prog (w1.drewN n) = .ok (.tuple #[.slice none 0 0, .bool false]) (w1.drewN n)) ∨
      (∃ B, γ B = some (.ptrs A k j) ∧ ∀ n, (Instr.lookup 81 lv (.agg #[.int .i64 k, .int .i64 j]) true).run Try.prog (w1.drewN n) = .ok (.tuple #[wide B q.list.length, .bool true]) (w1.drewN n)) := by
    rcases hlv with rfl | ⟨M, rfl, hM⟩
    · left
      intro n
      exact Maps.look_nil true spotKeyed Try.underlying81 (zeroPs _) (keyL_of (by omega) hj)
    · exact map_look st1.inv hA hM hp hq hk hj
  obtain ⟨⟨c0, c1, c2, c3⟩, _⟩ := blk4 kA1
  obtain ⟨⟨d0, d1⟩, _⟩ := blk2 sp1
  unfold ptrV at c0
  have HW : Hid (Inv E γ W) := hI
  have HE : Hid (EnvOk E) := hE
  have HA : Hid (γ A = some (.asked s pv f)) := hA
  have KA1 : Hid (Blk w1 A 83 [ptrV E.tb, pv, fv, lv]) := kA1
  have SP1 : Hid (Blk w1 W.heap.size 110 [.int .i64 k, .int .i64 j]) := sp1
  have ST1 : Hid (Step E γ W γ w1) := st1
  rcases look with hno | ⟨B, hB, hyes⟩
  · have HNO : Hid (∀ n, (Instr.lookup 81 lv (.agg #[.int .i64 k, .int .i64 j]) true).run Try.prog (w1.drewN n) = .ok (.tuple #[.slice none 0 0, .bool false]) (w1.drewN n)) := hno
    clear hI hE hA kA kA1 sp1 st1 hfit
    have hlv1 : ∃ r, lv = .map r := by
      rcases hlv with h | ⟨M, h, _⟩
      · exact ⟨_, h⟩
      · exact ⟨_, h⟩
    obtain ⟨mr, rfl⟩ := hlv1
    go_enter Try.func79, Try.ntmps79
    go_wp2
    go_quiet (fail)
    obtain ⟨X0, hX0⟩ : ∃ X0, w1.drewN nq = X0 := ⟨_, rfl⟩
    have bX0 : Below w1.heap.size w1 X0 := by rw [← hX0]; exact below_drewN w1 nq
    have sX0 : X0.heap.size = W.heap.size + 1 := by rw [← hX0]; exact s1
    have hno0 := HNO.out nq
    rw [hX0] at hno0 ⊢
    have HN0 : Hid (_ = _) := hno0
    have mk := make_of Try.underlying131 infoPtr rfl q.list.length (by omega) (by omega) X0
    unfold wide at mk
    obtain ⟨X2, hX2⟩ : ∃ X2, X0.alloc (.cells (reps q.list.length (.pointer none)).toArray 96) = X2 := ⟨_, rfl⟩
    have bX2 : Below w1.heap.size w1 X2 := by rw [← hX2]; exact bX0.alloc bX0.size _
    have L0 : Lst E A k j f' X0.heap.size W.heap.size q pv fv (.map mr) γ W 0 [] γ X2 := by
      refine ⟨rfl, ST1.out.trans (ST1.out.inv.step bX2), ?_, HW.out.new (by omega), HW.out.new (Nat.le_refl _), SP1.out.next bX2, KA1.out.next bX2, fun i' b x h => by simp at h, fun M hM => ?_⟩
      · rw [← hX2]
        exact Blk.new X0 96 _
      · cases hM
        have hMlt : M < W.heap.size := by
          rcases hlv with h | ⟨M', h, hM'⟩
          · cases h
          · cases h; exact HW.out.lt hM'
        exact (bX2.block M (by omega)).trans (b1.block M hMlt)
    have hMlt : ∀ M, Value.map mr = .map (some M) → M < W.heap.size := fun M h => by
      rcases hlv with h' | ⟨M', h', hM'⟩
      · rw [h'] at h; cases h
      · rw [h'] at h; cases h; exact HW.out.lt hM'
    have HL0 : Hid _ := L0
    have hBp : W.heap.size ≤ X0.heap.size := by omega
    have hneS : W.heap.size ≠ X0.heap.size := by omega
    have hneA : A ≠ X0.heap.size := by omega
    have HS : Hid (SelsAt d E.n₀ E.w₀ (.slice pl q.list.length cl) q.list) := hS
    have HFT : Hid (∀ x ∈ q.list, fitsV f' x = true) := hfits
    have HML : Hid (∀ M, Value.map mr = .map (some M) → M < W.heap.size) := hMlt
    generalize hBB : X0.heap.size = Bp at *
    clear hno0 hno c0 c1 c2 c3 d0 d1 bX2 L0 hS hfits hMlt HNO hX0 sX0
    go_wp2
    go_loopw [28] (fun x wr => ∃ (i : Nat) (bs : List Nat) (γi : Ghost), x = .int .i64 i ∧ i ≤ q.list.length ∧ Lst E A k j f' Bp W.heap.size q pv fv (.map mr) γ W i bs γi wr) (fun x _ => q.list.length - (intOf x).toNat)
    case atStart => exact ⟨0, [], γ, rfl, Nat.zero_le _, HL0.out⟩
    case round =>
      obtain ⟨i, bs, γi, rfl, hi, hL⟩ := hrel
      have HL : Hid _ := hL
      by_cases hlt : i < q.list.length
      · obtain ⟨x, hx⟩ : ∃ x, q.list[i]? = some x := ⟨_, List.getElem?_eq_getElem hlt⟩
        obtain ⟨d', _, bk, off, xv, rfl, hbk, hcap, hmx, hPx, y0⟩ := SelsAt.get HS.out hx
        unfold maxLen at hmx
        have y1 := (hL.st.inv.low.cell (p := ⟨bk, off + i, none⟩) hbk).trans y0
        obtain ⟨px, cx, rfl⟩ := RowT.len hPx
        have hii : (i : Int) < (q.list.length : Int) := by omega
        obtain ⟨X1, hX1⟩ : ∃ X1, wr.alloc (.cells #[.slice px x.length cx] 61) = X1 := ⟨_, rfl⟩
        have bX1 : Below wr.heap.size wr X1 := by rw [← hX1]; exact (Below.refl _ _).alloc (Nat.le_refl _) _
        have kX1 : Blk X1 wr.heap.size 61 [.slice px x.length cx] := by rw [← hX1]; exact Blk.new wr 61 _
        have hr0 : (bs.map ptrV ++ reps (q.list.length - i) (Value.pointer none))[i]? = some (.pointer none) := by
          have h2 : q.list.length - i = (q.list.length - (i + 1)) + 1 := by omega
          rw [List.getElem?_append_right (by rw [List.length_map, hL.len]; exact Nat.le_refl _), List.length_map, hL.len, Nat.sub_self, h2, reps_succ]
          rfl
        have q0 : Below X1.heap.size X1 X1.drew := below_drew (Below.refl _ _)
        have PU := hL.push hlt (below_next bX1 q0) hx ⟨d', hPx⟩ (HFT.out x (List.mem_of_getElem? hx)) hBp hneS hneA HML.out lowW
        have HPU : Hid _ := PU
        have HCS : Hid (∀ Y, Below X1.heap.size X1 Y → Y.cell? ⟨A, 0, none⟩ = some (.pointer (some ⟨E.tb, 0, none⟩)) ∧ Y.cell? ⟨wr.heap.size, 0, none⟩ = some (.slice px x.length cx)) := fun Y hY => ⟨(blk4 ((hL.ask.next bX1).next hY)).1.1, (blk1 (kX1.next hY)).1⟩
        have q1 : Below X1.heap.size X1 (X1.drew.alloc (.cells #[.pointer (some ⟨E.tb, 0, none⟩), .slice px x.length cx, .slice none 0 0, .map none] 83)) := q0.alloc (Nat.le_refl _) _
        obtain ⟨u0, u1⟩ := cell_row (blk_alloc (hL.row.next bX1) (.cells #[.pointer (some ⟨E.tb, 0, none⟩), .slice px x.length cx, .slice none 0 0, .map none] 83)) hr0
        have hqi : q.list.length ≤ 8796093022208 := hql
        clear hL PU hPx y0 kX1 hr0 hx
        go_upto_region 8 with fail
        clear y1 hX1 bX1
        refine Rg.wpD_begin [0, 1, 2, 3, 4, 5, 6, 7, 8, 9] (fun Y => Y.cell? ⟨A, 0, none⟩ = some (.pointer (some ⟨E.tb, 0, none⟩)) ∧ Y.cell? ⟨wr.heap.size, 0, none⟩ = some (.slice px x.length cx)) (by kernel_rfl) ?_
        have HeldS := HCS.out _ q0
        refine Rg.wpD_load 0 (v := ?_) (by simp only [List.getElem?_toArray, List.getElem?_cons_zero]; rfl) (by kernel_rfl) (by kernel_rfl) (by intro _ _ _ h; exact h) HeldS (by rfl) (fun wz hz => ?_) ?_
        rotate_left
        · first | (go_simp; done) | (go_simp; with_reducible rfl)
        simp only [Act.put, List.setIfInBounds_toArray, List.set_cons_succ, List.set_cons_zero]
        refine Rg.wpD_load 1 (v := ?_) (by simp only [List.getElem?_toArray, List.getElem?_cons_succ, List.getElem?_cons_zero]; rfl) (by kernel_rfl) (by kernel_rfl) (by intro _ _ _ h; exact h) HeldS (by rfl) (fun wz hz => ?_) ?_
        rotate_left
        · first | (go_simp; done) | (go_simp; with_reducible rfl)
        simp only [Act.put, List.setIfInBounds_toArray, List.set_cons_succ, List.set_cons_zero]
        refine Rg.wpD_load 2 (v := ?_) (by simp only [List.getElem?_toArray, List.getElem?_cons_succ, List.getElem?_cons_zero]; rfl) (by kernel_rfl) (by kernel_rfl) (by intro _ _ _ h; exact h) HeldS (by rfl) (fun wz hz => ?_) ?_
        rotate_left
        · first | (go_simp; done) | (go_simp; with_reducible rfl)
        simp only [Act.put, List.setIfInBounds_toArray, List.set_cons_succ, List.set_cons_zero]
        refine Rg.wpD_load 3 (v := ?_) (by simp only [List.getElem?_toArray, List.getElem?_cons_succ, List.getElem?_cons_zero]; rfl) (by kernel_rfl) (by kernel_rfl) (by intro _ _ _ h; exact h) HeldS (by rfl) (fun wz hz => ?_) ?_
        rotate_left
        · first | (go_simp; done) | (go_simp; with_reducible rfl)
        simp only [Act.put, List.setIfInBounds_toArray, List.set_cons_succ, List.set_cons_zero]
        refine Rg.wpD_load 4 (v := ?_) (by simp only [List.getElem?_toArray, List.getElem?_cons_succ, List.getElem?_cons_zero]; rfl) (by kernel_rfl) (by kernel_rfl) (by intro _ _ _ h; exact h) HeldS (by rfl) (fun wz hz => ?_) ?_
        rotate_left
        · first | (go_simp; done) | (go_simp; with_reducible rfl)
        simp only [Act.put, List.setIfInBounds_toArray, List.set_cons_succ, List.set_cons_zero]
        refine Rg.wpD_load 5 (v := ?_) (by simp only [List.getElem?_toArray, List.getElem?_cons_succ, List.getElem?_cons_zero]; rfl) (by kernel_rfl) (by kernel_rfl) (by intro _ _ _ h; exact h) HeldS (by rfl) (fun wz hz => ?_) ?_
        rotate_left
        · first | (go_simp; done) | (go_simp; with_reducible rfl)
        simp only [Act.put, List.setIfInBounds_toArray, List.set_cons_succ, List.set_cons_zero]
        refine Rg.wpD_load 6 (v := ?_) (by simp only [List.getElem?_toArray, List.getElem?_cons_succ, List.getElem?_cons_zero]; rfl) (by kernel_rfl) (by kernel_rfl) (by intro _ _ _ h; exact h) HeldS (by rfl) (fun wz hz => ?_) ?_
        rotate_left
        · first | (go_simp; done) | (go_simp; with_reducible rfl)
        simp only [Act.put, List.setIfInBounds_toArray, List.set_cons_succ, List.set_cons_zero]
        refine Rg.wpD_load 7 (v := ?_) (by simp only [List.getElem?_toArray, List.getElem?_cons_succ, List.getElem?_cons_zero]; rfl) (by kernel_rfl) (by kernel_rfl) (by intro _ _ _ h; exact h) HeldS (by rfl) (fun wz hz => ?_) ?_
        rotate_left
        · first | (go_simp; done) | (go_simp; with_reducible rfl)
        simp only [Act.put, List.setIfInBounds_toArray, List.set_cons_succ, List.set_cons_zero]
        refine Rg.wpD_load 8 (v := ?_) (by simp only [List.getElem?_toArray, List.getElem?_cons_succ, List.getElem?_cons_zero]; rfl) (by kernel_rfl) (by kernel_rfl) (by intro _ _ _ h; exact h) HeldS (by rfl) (fun wz hz => ?_) ?_
        rotate_left
        · first | (go_simp; done) | (go_simp; with_reducible rfl)
        simp only [Act.put, List.setIfInBounds_toArray, List.set_cons_succ, List.set_cons_zero]
        refine Rg.wpD_do 9 (by kernel_rfl) (by simp only [List.getElem?_toArray, List.getElem?_cons_succ, List.getElem?_cons_zero]; rfl) (fun K hK => ?_)
        go_simp
        refine hK _ _ (fun _ => HCS.out _ q1) ?_
        clear hK K
        refine Rg.wpD_pure 10 (v := ?_) (by simp only [List.getElem?_toArray, List.getElem?_cons_succ, List.getElem?_cons_zero]; rfl) (by kernel_rfl) (by kernel_rfl) (by intro _ _ _ h; exact h) (by rfl) (fun wz => ?_) ?_
        rotate_left
        · first | (go_simp; done) | (go_simp; with_reducible rfl)
        simp only [Act.put, List.setIfInBounds_toArray, List.set_cons_succ, List.set_cons_zero]
        refine Rg.wpD_do 11 (by kernel_rfl) (by simp only [List.getElem?_toArray, List.getElem?_cons_succ, List.getElem?_cons_zero]; rfl) (fun K hK => ?_)
        go_simp
        refine hK _ _ (fun h => absurd h (by decide)) ?_
        clear hK K
        refine Rg.wpD_done (by kernel_rfl) ?_
        go_wp2
        go_roundw
        case rel => exact ⟨i + 1, _, _, rfl, by omega, HPU.out⟩
        case measure => simp [intOf]; omega
      · obtain rfl : i = q.list.length := by omega
        obtain ⟨st9, hA9⟩ := hL.done HW.out HA.out hf hp hq hBp lowW
        have hge : ¬ ((q.list.length : Int) < (q.list.length : Int)) := by omega
        have hB9 : addG γi Bp (.ptrs A k j) Bp = some (.ptrs A k j) := addG_same _ _ _
        obtain ⟨⟨c0, c1, c2, c3⟩, f0, f1, f2, f3⟩ := blk4 hL.ask
        obtain ⟨⟨d0, d1⟩, _⟩ := blk2 hL.sp
        unfold ptrV at c0
        generalize addG γi Bp (.ptrs A k j) = γ9 at *
        have ST9 : Hid (Step E γ W γ9 wr) := st9
        have HA9 : Hid (γ9 A = some (.asked s pv f)) := hA9
        have HB9 : Hid (γ9 Bp = some (.ptrs A k j)) := hB9
        have ASK : Hid (Blk wr A 83 [ptrV E.tb, pv, fv, .map mr]) := hL.ask
        have SPB : Hid (Blk wr W.heap.size 110 [.int .i64 k, .int .i64 j]) := hL.sp
        have spN : γ9 W.heap.size = none := by
          have h9 := ST9.out.inv
          cases e : γ9 W.heap.size with
          | none => rfl
          | some r =>
            obtain ⟨_, o, ho, hr⟩ := h9.each _ _ e
            rw [show wr.heap[W.heap.size]? = _ from hL.sp] at ho
            cases ho
            cases r with
            | asked s' pv' f'' => obtain ⟨_, _, _, _, h, _⟩ := hr; cases h
            | outer A' => obtain ⟨_, _, _, _, _, h, _⟩ := hr; simp at h
            | verd A' k' => obtain ⟨_, _, _, _, _, h, _⟩ := hr; simp at h
            | mapr A' => obtain ⟨_, _, _, _, _, _, ⟨_, _, h, _⟩, _⟩ := hr; cases h
            | ptrs A' k' j' => obtain ⟨_, _, _, _, _, _, _, _, _, _, _, h, _⟩ := hr; simp at h
        have HMP : Hid (∀ M, Value.map mr = .map (some M) → wr.heap[M]? = W.heap[M]?) := hL.mp
        have heq := eqlNilMap wr mr
        clear hL hB9 hA9 st9
        go_upto_if 49 with fail
        clear heq
        go_cut [] (fun wx => ∃ γx M, Step E γ W γx wx ∧ γx A = some (.asked s pv f) ∧ γx Bp = some (.ptrs A k j) ∧ γx M = some (.mapr A) ∧ Blk wx A 83 [ptrV E.tb, pv, fv, .map (some M)] ∧ Blk wx W.heap.size 110 [.int .i64 k, .int .i64 j] ∧ ∀ n, ∃ w', (Instr.mapUpdate 81 (.map (some M)) (.agg #[.int .i64 k, .int .i64 j]) (wide Bp q.list.length)).run Try.prog (wx.drewN n) = .ok () w' ∧ Step E γx (wx.drewN n) γx w')
        case first =>
          have st9 := ST9.out
          have sz9 := st9.size
          cases mr with
          | none =>
            obtain ⟨st10, k10⟩ := step_map st9.inv HA9.out ASK.out
            have hM10 : addG γ9 wr.heap.size (.mapr A) wr.heap.size = some (.mapr A) := addG_same _ _ _
            have mono := addG_mono st9.inv (Nat.le_refl wr.heap.size) (.mapr A)
            have hne : W.heap.size ≠ A := by omega
            have sp10 := (blk_alloc SPB.out (.map #[] 0)).kept (grown_set (wr.alloc (.map #[] 0)) A 3 (.map (some wr.heap.size))) (fun e => hne (by cases e; rfl))
            have hupd : ∀ n, ∃ w', (Instr.mapUpdate 81 (.map (some wr.heap.size)) (.agg #[.int .i64 k, .int .i64 j]) (wide Bp q.list.length)).run Try.prog (((wr.alloc (.map #[] 0)).setCell ⟨A, 3, none⟩ (.map (some wr.heap.size))).drewN n) = .ok () w' ∧ Step E (addG γ9 wr.heap.size (.mapr A)) (((wr.alloc (.map #[] 0)).setCell ⟨A, 3, none⟩ (.map (some wr.heap.size))).drewN n) (addG γ9 wr.heap.size (.mapr A)) w' := fun n => by
              have hW0 : (Instr.lookup 81 (.map (some wr.heap.size)) (.agg #[.int .i64 k, .int .i64 j]) true).run Try.prog (wr.alloc (.map #[] 0)) = .ok (.tuple #[.slice none 0 0, .bool false]) (wr.alloc (.map #[] 0)) := by
                obtain ⟨v, ps, hr, hv⟩ := World.ownsMap.look_ok (World.ownsMap_made wr Try.prog 110 held) spotKeyed Try.underlying81 (zeroPs _) (zd := .held (.slice none 0 0)) (zp := []) rfl (keyL_of (k := k) (j := j) (by omega) hj)
                have hh : Maps.has (DataW.map [] : DataW Value) (keyL k j) = false := rfl
                rw [hh] at hr
                rw [Maps.atKey_of_not_has hh] at hv
                unfold held at hv
                simp at hv
                rw [hv.1] at hr
                exact hr
              have inv10 := (st10.inv.step (below_drewN _ n)).inv
              exact map_put inv10 (mono _ _ HA9.out) hM10 hp hq hk hj (mono _ _ HB9.out) (W0 := wr.alloc (.map #[] 0)) (Below.heap_setCell _ _ _ _ (by simp; omega)) hW0
            have FIN : Hid _ := (⟨_, _, st9.trans st10, mono _ _ HA9.out, mono _ _ HB9.out, hM10, k10, sp10, hupd⟩ : ∃ γx M, Step E γ W γx _ ∧ γx A = some (.asked s pv f) ∧ γx Bp = some (.ptrs A k j) ∧ γx M = some (.mapr A) ∧ Blk _ A 83 [ptrV E.tb, pv, fv, .map (some M)] ∧ Blk _ W.heap.size 110 [.int .i64 k, .int .i64 j] ∧ ∀ n, ∃ w', (Instr.mapUpdate 81 (.map (some M)) (.agg #[.int .i64 k, .int .i64 j]) (wide Bp q.list.length)).run Try.prog (((wr.alloc (.map #[] 0)).setCell ⟨A, 3, none⟩ (.map (some wr.heap.size))).drewN n) = .ok () w' ∧ Step E γx (((wr.alloc (.map #[] 0)).setCell ⟨A, 3, none⟩ (.map (some wr.heap.size))).drewN n) γx w')
            have e0 := (blk4 (blk_alloc ASK.out (.map #[] 0))).1.2.2.2
            have e1 := (blk4 (blk_alloc ASK.out (.map #[] 0))).2.2.2.2
            have hmm := @run_makeMap Try.prog
            clear st9 st10 k10 sp10 hupd hM10 mono
            go_wp2
            go_meet
            exact FIN.out
          | some M =>
            have hM9 : γ9 M = some (.mapr A) := by
              rcases hlv with h | ⟨M', h, hM'⟩
              · cases h
              · cases h
                exact st9.mono HW.out _ _ hM'
            have FIN : Hid _ := (⟨γ9, M, st9, HA9.out, HB9.out, hM9, ASK.out, SPB.out, fun n => map_put (st9.inv.step (below_drewN _ n)).inv HA9.out hM9 hp hq hk hj HB9.out (W0 := X0) ((HMP.out M rfl).trans (((bX0.block M (by have := HML.out M rfl; omega)).trans (b1.block M (HML.out M rfl))).symm)) HN0.out⟩ : ∃ γx M, Step E γ W γx wr ∧ γx A = some (.asked s pv f) ∧ γx Bp = some (.ptrs A k j) ∧ γx M = some (.mapr A) ∧ Blk wr A 83 [ptrV E.tb, pv, fv, .map (some M)] ∧ Blk wr W.heap.size 110 [.int .i64 k, .int .i64 j] ∧ ∀ n, ∃ w', (Instr.mapUpdate 81 (.map (some M)) (.agg #[.int .i64 k, .int .i64 j]) (wide Bp q.list.length)).run Try.prog (wr.drewN n) = .ok () w' ∧ Step E γx (wr.drewN n) γx w')
            clear st9 hM9
            go_wp2
            go_meet
            exact FIN.out
        case rest =>
          clear c0 c1 c2 c3 f0 f1 f2 f3 d0 d1 ASK SPB HMP
          obtain ⟨γx, M, stx, hAx, hBx, hMx, kAx, spx, hupd⟩ := hcut
          obtain ⟨w9, hrun, st9⟩ := hupd 1
          have HST : Hid (Step E γ W γx w9) := (stx.trans (stx.inv.step (below_drewN wc 1))).trans st9
          have HBX : Hid (_ = _) := hBx
          have HeldS0 : Hid (∀ Y, Below wc.heap.size wc Y → Y.cell? ⟨A, 3, none⟩ = some (.map (some M)) ∧ Y.cell? ⟨W.heap.size, 0, none⟩ = some (.int .i64 k) ∧ Y.cell? ⟨W.heap.size, 1, none⟩ = some (.int .i64 j)) := fun Y hY => ⟨(blk4 (kAx.next hY)).1.2.2.2, (blk2 (spx.next hY)).1.1, (blk2 (spx.next hY)).1.2⟩
          have q0 : Below wc.heap.size wc wc.drew := below_drew (Below.refl _ _)
          unfold wide at hrun
          rw [show wc.drewN 1 = wc.drew from rfl] at hrun
          clear hupd stx st9 kAx spx hBx
          go_upto_region 12 with fail
          refine Rg.wpD_begin [0, 1, 2, 3, 4, 5] (fun Y => Y.cell? ⟨A, 3, none⟩ = some (.map (some M)) ∧ Y.cell? ⟨W.heap.size, 0, none⟩ = some (.int .i64 k) ∧ Y.cell? ⟨W.heap.size, 1, none⟩ = some (.int .i64 j)) (by kernel_rfl) ?_
          have HeldS := HeldS0.out _ q0
          refine Rg.wpD_load 0 (v := ?_) (by simp only [List.getElem?_toArray, List.getElem?_cons_zero]; rfl) (by kernel_rfl) (by kernel_rfl) (by intro _ _ _ h; exact h) HeldS (by rfl) (fun wz hz => ?_) ?_
          rotate_left
          · first | (go_simp; done) | (go_simp; with_reducible rfl)
          simp only [Act.put, List.setIfInBounds_toArray, List.set_cons_succ, List.set_cons_zero]
          refine Rg.wpD_load 1 (v := ?_) (by simp only [List.getElem?_toArray, List.getElem?_cons_succ, List.getElem?_cons_zero]; rfl) (by kernel_rfl) (by kernel_rfl) (by intro _ _ _ h; exact h) HeldS (by rfl) (fun wz hz => ?_) ?_
          rotate_left
          · first | (go_simp; done) | (go_simp; with_reducible rfl)
          simp only [Act.put, List.setIfInBounds_toArray, List.set_cons_succ, List.set_cons_zero]
          refine Rg.wpD_load 2 (v := ?_) (by simp only [List.getElem?_toArray, List.getElem?_cons_succ, List.getElem?_cons_zero]; rfl) (by kernel_rfl) (by kernel_rfl) (by intro _ _ _ h; exact h) HeldS (by rfl) (fun wz hz => ?_) ?_
          rotate_left
          · first | (go_simp; done) | (go_simp; with_reducible rfl)
          simp only [Act.put, List.setIfInBounds_toArray, List.set_cons_succ, List.set_cons_zero]
          refine Rg.wpD_load 3 (v := ?_) (by simp only [List.getElem?_toArray, List.getElem?_cons_succ, List.getElem?_cons_zero]; rfl) (by kernel_rfl) (by kernel_rfl) (by intro _ _ _ h; exact h) HeldS (by rfl) (fun wz hz => ?_) ?_
          rotate_left
          · first | (go_simp; done) | (go_simp; with_reducible rfl)
          simp only [Act.put, List.setIfInBounds_toArray, List.set_cons_succ, List.set_cons_zero]
          refine Rg.wpD_load 4 (v := ?_) (by simp only [List.getElem?_toArray, List.getElem?_cons_succ, List.getElem?_cons_zero]; rfl) (by kernel_rfl) (by kernel_rfl) (by intro _ _ _ h; exact h) HeldS (by rfl) (fun wz hz => ?_) ?_
          rotate_left
          · first | (go_simp; done) | (go_simp; with_reducible rfl)
          simp only [Act.put, List.setIfInBounds_toArray, List.set_cons_succ, List.set_cons_zero]
          refine Rg.wpD_load 5 (v := ?_) (by simp only [List.getElem?_toArray, List.getElem?_cons_succ, List.getElem?_cons_zero]; rfl) (by kernel_rfl) (by kernel_rfl) (by intro _ _ _ h; exact h) HeldS (by rfl) (fun wz hz => ?_) ?_
          rotate_left
          · first | (go_simp; done) | (go_simp; with_reducible rfl)
          simp only [Act.put, List.setIfInBounds_toArray, List.set_cons_succ, List.set_cons_zero]
          refine Rg.wpD_do 6 (by kernel_rfl) (by simp only [List.getElem?_toArray, List.getElem?_cons_succ, List.getElem?_cons_zero]; rfl) (fun K hK => ?_)
          go_simp
          refine hK _ _ (fun h => absurd h (by decide)) ?_
          clear hK K
          refine Rg.wpD_done (by kernel_rfl) ?_
          go_wp2
          go_ret
          exact ⟨Bp, rfl, γx, HBX.out, HST.out⟩
  · unfold wide at hyes
    have hfin : ∀ n, Step E γ W γ (w1.drewN n) := fun n => st1.trans (st1.inv.step (below_drewN w1 n))
    have HF : Hid (∀ n, Step E γ W γ (w1.drewN n)) := hfin
    have HB : Hid (γ B = some (.ptrs A k j)) := hB
    have hlv1 : ∃ r, lv = .map r := by
      rcases hlv with h | ⟨M, h, _⟩
      · exact ⟨_, h⟩
      · exact ⟨_, h⟩
    obtain ⟨mr, rfl⟩ := hlv1
    clear hI hE hA kA kA1 sp1 st1 hfit hB hfin
    go_enter Try.func79, Try.ntmps79
    go_wp2
    go_quiet (fail)
    go_wp2
    go_ret
    exact ⟨B, γ, rfl, HB.out, HF.out _⟩

end Go.Proofs.Ytgjfapdnobhkcab.Mt
