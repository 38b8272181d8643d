/- The document's own matching (tapestrierref9): what must hang ahead of a part: hangs. -/
import Derived.Test.YtiaikkbmgnaikaaRfFront
namespace Go.Proofs.Ytiaikkbmgnaikaa.Rf
open Go Go.RowKit Go.Shelf Sl Wg Bk Go.Proofs.Ytiaikkbmgnaikaa.Tre
open Dm (El parentV placeV childrenV nodeV beforeV TreeOk)

/-- What is left to ask, where x is the next one. -/
def remV (d : Nat) (T : TE) (s : Sel) (k : Nat) (comb x : Int) : Bool := if x = -1 then false else upV d T s k x.toNat || (Mt.aheadV T.es comb x.toNat).any (upV d T s k)
theorem any_rem (d : Nat) (T : TE) (s : Sel) (k : Nat) (hO : TreeOk T.es) {comb : Int} {e : Nat} (he : e < T.es.length) (hf : Mt.farV comb = true := by decide) : (Mt.aheadV T.es comb e).any (upV d T s k) = remV d T s k comb (Mt.nextV T.es comb e) := by
  rw [Mt.ahead_next hO he, hf]
  unfold remV
  split
  · rfl
  · rw [if_pos rfl, List.any_cons]
theorem rem_step (d : Nat) (T : TE) (s : Sel) (k : Nat) (hO : TreeOk T.es) {comb : Int} (hf : Mt.farV comb = true) {n : Nat} (hn : n < T.es.length) : remV d T s k comb (n : Int) = (upV d T s k n || remV d T s k comb (Mt.nextV T.es comb n)) := by
  rw [← any_rem d T s k hO hn hf]
  unfold remV
  rw [if_neg (by omega), Int.toNat_natCast]

set_option maxRecDepth 100000 in
set_option maxHeartbeats 4000000 in
theorem hangs_of (d k : Nat) (HF : FrontOK d k) : HangsOK d k := by
  intro T s p cap e Kb w0 X hE he hk hKb hX hKn
  obtain ⟨hs50, _⟩ := few_parts hE.deep
  have hlen := hE.tree.len
  obtain ⟨M, hM⟩ : ∃ M, k + 1 = M := ⟨_, rfl⟩
  obtain ⟨V, hV⟩ : ∃ V, (Mt.aheadV T.es (Mt.partAt s (k + 1)).1 e).any (upV d T s k) = V := ⟨_, rfl⟩
  rw [hV]
  rw [hM] at hk hV
  obtain ⟨q, hq⟩ : ∃ q, s[M]? = some q := ⟨_, List.getElem?_eq_getElem hk⟩
  rw [Mt.partAt_eq hq] at hV
  obtain ⟨X1, hX1⟩ : ∃ X1, X.alloc (.cells #[.slice p s.length cap] 34) = X1 := ⟨_, rfl⟩
  have b1 : Below X.heap.size X X1 := by rw [← hX1]; exact (Below.refl _ X).alloc (Nat.le_refl _) _
  have k1 : Blk X1 X.heap.size 34 [.slice p s.length cap] := by rw [← hX1]; exact Blk.new X _ _
  have hsX := hX.size
  have hKX := hKn.lt
  have hB1 : Below w0.heap.size w0 X1 := hX.trans (b1.mono hsX)
  have HKn : Hid (Kn X1 Kb s.length T.es.length (upV d T s)) := hKn.kept (b1.block Kb hKX)
  have HE : Hid (PtEnv d T s p cap w0) := hE
  have HBB : Hid (∀ Y, But Kb X1 Y → Below w0.heap.size w0 Y) := fun Y hY => hB1.trans (hY.below hKb hB1.size)
  have HFR : Hid (∀ (x : Nat) (Y : World), x < T.es.length → But Kb X1 Y → Kn Y Kb s.length T.es.length (upV d T s) → Calls Try.prog 39 #[T.p, .int .i64 x, .agg #[.slice p s.length cap], .int .i64 (M : Int), .int .i64 (8 - (d : Int)), .slice (some ⟨Kb, 0, none⟩) (T.es.length * s.length) (T.es.length * s.length)] Y fun r X' => r = .returned (.bool (upV d T s k x)) ∧ But Kb Y X' ∧ Kn X' Kb s.length T.es.length (upV d T s)) := fun x Y h1 h2 h3 => by
    have h := HF T s p cap x Kb w0 Y HE.out h1 (by omega) hKb (HBB.out Y h2) h3
    rw [show (k : Int) + 1 = (M : Int) by omega] at h
    exact h
  have HB1 : Hid (Below w0.heap.size w0 X1 ∧ But Kb X X1 ∧ Blk X1 X.heap.size 34 [.slice p s.length cap] ∧ X.heap.size ≠ Kb) := ⟨hB1, .of_below b1, k1, by omega⟩
  obtain ⟨b, off, _, _, _, _, hq0, hbn, hc1, hc2, ⟨y0, _⟩, _⟩ := PartsR.get HE.out.parts hq
  subst hq0
  unfold maxLen at hc2
  replace y0 := (hB1.cell (p := ⟨b, off + M * 6, none⟩) hbn).trans y0
  have c0 := (blk1 k1).1
  obtain ⟨J, hJ⟩ : ∃ J : Int, (k : Int) + 2 = J := ⟨_, rfl⟩
  rw [hJ]
  have hw1 : IntKind.i64.wrap (J - 1) = (M : Int) := by rw [IntKind.wrap_i64]; omega
  have hMl : (M : Int) < (s.length : Int) := by omega
  obtain ⟨L, hL⟩ : ∃ L, T.es.length * s.length = L := ⟨_, rfl⟩
  obtain ⟨D, hD⟩ : ∃ D : Int, 8 - (d : Int) = D := ⟨_, rfl⟩
  rw [hL, hD] at HFR ⊢
  have HV : Hid (V = (Mt.aheadV T.es q.1 e).any (upV d T s k)) := hV.symm
  clear hV hL hD hJ hM HF hE hKn hc1 hk
  by_cases h12 : q.1 = 1 ∨ q.1 = 4
  · rcases h12 with oq | oq
    · have HR0 : Hid (V = remV d T s k 1 (parentV T.es e)) := by
        show _ = _
        rw [HV.out, oq, any_rem d T s k HE.out.tree.ok he]
        rfl
      have hfn := parent_any T e X1 (HE.out.tree.next hB1)
      have p1 : (q.1 == 1) = true := by rw [oq]; rfl
      have hnx := Mt.parentV_lt HE.out.tree.ok he
      clear hq HV oq hB1 k1 b1
      go_enter Try.func45, Try.ntmps45
      go_wp2_with fail
      go_at_call 16
      refine Calls.mono hfn ?_
      clear hfn c0 y0 hX1
      rintro r X2 ⟨rfl, hww⟩
      obtain rfl := hww.symm
      clear hww
      have b2 : But Kb X1 X1 := But.refl Kb X1
      have hK2 : Kn X1 Kb s.length T.es.length (upV d T s) := HKn.out
      generalize parentV T.es (e : Int) = x0 at *
      have HS : Hid (_ ∧ _ ∧ _) := ⟨hnx, b2, hK2⟩
      clear hnx b2 hK2
      go_wp2
      go_loopw [13] (fun y wr => ∃ x : Int, y = .int .i64 x ∧ (x = -1 ∨ ∃ n : Nat, x = (n : Int) ∧ n < T.es.length) ∧ Hid (V = remV d T s k 1 x) ∧ But Kb X1 wr ∧ Kn wr Kb s.length T.es.length (upV d T s)) (fun y _ => (intOf y + 1).toNat)
      case atStart => exact ⟨x0, rfl, HS.out.1.imp_right (fun ⟨j, h1, h2⟩ => ⟨j, h1, by omega⟩), HR0, HS.out.2.1, HS.out.2.2⟩
      case round =>
        clear HS HR0
        obtain ⟨x, rfl, hx, HR, bt, hKt⟩ := hrel
        rcases hx with rfl | ⟨n, rfl, hn⟩
        · obtain rfl : V = false := HR.out
          have FIN : Hid (But Kb X wr ∧ Kn wr Kb s.length T.es.length (upV d T s)) := ⟨HB1.out.2.1.trans bt, hKt⟩
          clear bt hKt HR
          go_wp2
          go_ret
          exact ⟨rfl, FIN.out⟩
        · have hcall := HFR.out n wr hn bt hKt
          have c0 := (blk1 (bt.blk HB1.out.2.2.1 HB1.out.2.2.2)).1
          have hn0 : (0 : Int) ≤ (n : Int) := by omega
          have HRS : Hid (V = (upV d T s k n || remV d T s k 1 (parentV T.es n))) := by
            show _ = _
            rw [HR.out, rem_step d T s k HE.out.tree.ok (by decide) hn]
            rfl
          generalize hUV : upV d T s k n = UV at hcall
          have HUV : Hid (upV d T s k n = UV) := hUV
          rw [hUV] at HRS
          clear hUV HR hKt
          go_wp2_with fail
          go_at_call 39
          refine Calls.mono hcall ?_
          clear hcall c0
          rintro r X3 ⟨rfl, b3, hK3⟩
          cases UV with
          | true =>
            obtain rfl : V = true := by rw [HRS.out, Bool.true_or]
            have FIN : Hid (But Kb X X3 ∧ Kn X3 Kb s.length T.es.length (upV d T s)) := ⟨(HB1.out.2.1.trans bt).trans b3, hK3⟩
            clear bt b3 hK3 HRS HUV
            go_wp2
            go_ret
            exact ⟨rfl, FIN.out⟩
          | false =>
            have HR1 : Hid (V = remV d T s k 1 (parentV T.es n)) := by show _ = _; rw [HRS.out, Bool.false_or]
            have hp3 := parent_any T n X3 (HE.out.tree.next (HBB.out X3 (bt.trans b3)))
            have hnx := Mt.parentV_lt HE.out.tree.ok hn
            have HP : Hid (_ ∧ _ ∧ _ ∧ _) := ⟨bt, b3, hK3, hnx⟩
            clear HRS HUV bt b3 hK3 hnx
            go_wp2_with fail
            go_at_call 16
            refine Calls.mono hp3 ?_
            clear hp3
            obtain ⟨bt, b3, hK3, hnx⟩ := HP.out
            rintro r X4 ⟨rfl, hww⟩
            have b4 : But Kb X1 X4 := by rw [hww]; exact bt.trans b3
            have hK4 : Kn X4 Kb s.length T.es.length (upV d T s) := by rw [hww]; exact hK3
            generalize parentV T.es (n : Int) = x1 at *
            have HQ : Hid (_ ∧ _ ∧ _) := ⟨b4, hK4, hnx⟩
            clear hww bt b3 hK3 b4 hK4 hnx HP
            go_wp2
            obtain ⟨b4, hK4, hnx⟩ := HQ.out
            go_roundw
            case rel => exact ⟨x1, rfl, hnx.imp_right (fun ⟨j, h1, h2⟩ => ⟨j, h1, by omega⟩), HR1, b4, hK4⟩
            case measure => rcases hnx with h | ⟨j, h, h2⟩ <;> simp [intOf, h] <;> omega
    · have HR0 : Hid (V = remV d T s k 4 (beforeV T.es e)) := by
        show _ = _
        rw [HV.out, oq, any_rem d T s k HE.out.tree.ok he]
        rfl
      have hfn := before_any T e X1 (HE.out.tree.next hB1)
      have p4 : (q.1 == 4) = true := by rw [oq]; rfl
      have p1 : (q.1 == 1) = false := by rw [oq]; rfl
      have p2 : (q.1 == 2) = false := by rw [oq]; rfl
      have p3 : (q.1 == 3) = false := by rw [oq]; rfl
      have hnx := Mt.beforeV_lt HE.out.tree.ok he
      clear hq HV oq hB1 k1 b1
      go_enter Try.func45, Try.ntmps45
      go_wp2_with fail
      go_at_call 49
      refine Calls.mono hfn ?_
      clear hfn c0 y0 hX1
      rintro r X2 ⟨rfl, n, hww⟩
      have b2 : But Kb X1 X2 := by rw [hww]; exact .of_below (below_drawn X1 n)
      have hK2 : Kn X2 Kb s.length T.es.length (upV d T s) := by rw [hww]; exact HKn.out.kept rfl
      clear hww
      generalize beforeV T.es (e : Int) = x0 at *
      have HS : Hid (_ ∧ _ ∧ _) := ⟨hnx, b2, hK2⟩
      clear hnx b2 hK2
      go_wp2
      go_loopw [15] (fun y wr => ∃ x : Int, y = .int .i64 x ∧ (x = -1 ∨ ∃ n : Nat, x = (n : Int) ∧ n < T.es.length) ∧ Hid (V = remV d T s k 4 x) ∧ But Kb X1 wr ∧ Kn wr Kb s.length T.es.length (upV d T s)) (fun y _ => (intOf y + 1).toNat)
      case atStart => exact ⟨x0, rfl, HS.out.1.imp_right (fun ⟨j, h1, h2⟩ => ⟨j, h1, by omega⟩), HR0, HS.out.2.1, HS.out.2.2⟩
      case round =>
        clear HS HR0
        obtain ⟨x, rfl, hx, HR, bt, hKt⟩ := hrel
        rcases hx with rfl | ⟨n, rfl, hn⟩
        · obtain rfl : V = false := HR.out
          have FIN : Hid (But Kb X wr ∧ Kn wr Kb s.length T.es.length (upV d T s)) := ⟨HB1.out.2.1.trans bt, hKt⟩
          clear bt hKt HR
          go_wp2
          go_ret
          exact ⟨rfl, FIN.out⟩
        · have hcall := HFR.out n wr hn bt hKt
          have c0 := (blk1 (bt.blk HB1.out.2.2.1 HB1.out.2.2.2)).1
          have hn0 : (0 : Int) ≤ (n : Int) := by omega
          have HRS : Hid (V = (upV d T s k n || remV d T s k 4 (beforeV T.es n))) := by
            show _ = _
            rw [HR.out, rem_step d T s k HE.out.tree.ok (by decide) hn]
            rfl
          generalize hUV : upV d T s k n = UV at hcall
          have HUV : Hid (upV d T s k n = UV) := hUV
          rw [hUV] at HRS
          clear hUV HR hKt
          go_wp2_with fail
          go_at_call 39
          refine Calls.mono hcall ?_
          clear hcall c0
          rintro r X3 ⟨rfl, b3, hK3⟩
          cases UV with
          | true =>
            obtain rfl : V = true := by rw [HRS.out, Bool.true_or]
            have FIN : Hid (But Kb X X3 ∧ Kn X3 Kb s.length T.es.length (upV d T s)) := ⟨(HB1.out.2.1.trans bt).trans b3, hK3⟩
            clear bt b3 hK3 HRS HUV
            go_wp2
            go_ret
            exact ⟨rfl, FIN.out⟩
          | false =>
            have HR1 : Hid (V = remV d T s k 4 (beforeV T.es n)) := by show _ = _; rw [HRS.out, Bool.false_or]
            have hp3 := before_any T n X3 (HE.out.tree.next (HBB.out X3 (bt.trans b3)))
            have hnx := Mt.beforeV_lt HE.out.tree.ok hn
            have HP : Hid (_ ∧ _ ∧ _ ∧ _) := ⟨bt, b3, hK3, hnx⟩
            clear HRS HUV bt b3 hK3 hnx
            go_wp2_with fail
            go_at_call 49
            refine Calls.mono hp3 ?_
            clear hp3
            obtain ⟨bt, b3, hK3, hnx⟩ := HP.out
            rintro r X4 ⟨rfl, n', hww⟩
            have b4 : But Kb X1 X4 := by rw [hww]; exact (bt.trans b3).trans (.of_below (below_drawn X3 n'))
            have hK4 : Kn X4 Kb s.length T.es.length (upV d T s) := by rw [hww]; exact hK3.kept rfl
            generalize beforeV T.es (n : Int) = x1 at *
            have HQ : Hid (_ ∧ _ ∧ _) := ⟨b4, hK4, hnx⟩
            clear hww bt b3 hK3 b4 hK4 hnx HP
            go_wp2
            obtain ⟨b4, hK4, hnx⟩ := HQ.out
            go_roundw
            case rel => exact ⟨x1, rfl, hnx.imp_right (fun ⟨j, h1, h2⟩ => ⟨j, h1, by omega⟩), HR1, b4, hK4⟩
            case measure => rcases hnx with h | ⟨j, h, h2⟩ <;> simp [intOf, h] <;> omega
  · by_cases h23 : q.1 = 2 ∨ q.1 = 3
    · rcases h23 with oq | oq
      · have hV1 : V = if parentV T.es e = -1 then false else upV d T s k (parentV T.es e).toNat := by
          rw [HV.out, oq, Mt.ahead_next HE.out.tree.ok he]
          show List.any (if parentV T.es e = -1 then [] else (parentV T.es e).toNat :: (if false = true then _ else [])) _ = _
          split <;> simp
        have HFN : Hid (∀ Y, But Kb X1 Y → Calls Try.prog 16 #[T.p, .int .i64 e] Y fun x w' => x = .returned (.int .i64 (parentV T.es e)) ∧ w' = Y) := fun Y hY => parent_any T e Y (HE.out.tree.next (HBB.out Y hY))
        have p2 : (q.1 == 2) = true := by rw [oq]; rfl
        have o1 : (q.1 == 1) = false := by rw [oq]; rfl
        
        have hnx := Mt.parentV_lt HE.out.tree.ok he
        have HSt : Hid (∀ Y, But Kb X1 Y → Y.cell? ⟨X.heap.size, 0, none⟩ = some (.slice (some ⟨b, off, none⟩) s.length cap)) := fun Y hY => (blk1 (hY.blk HB1.out.2.2.1 HB1.out.2.2.2)).1
        clear hq HV oq hB1 k1 b1
        generalize parentV T.es (e : Int) = x0 at *
        rcases hnx with rfl | ⟨n, rfl, hn⟩
        · obtain rfl : V = false := hV1
          go_enter Try.func45, Try.ntmps45
          go_upto_region 10 with fail
          first | rw [hX1] | skip
          clear hX1 c0 y0
          refine Rg.wpD_begin [0, 1, 2, 3, 4, 5, 6, 7, 8, 9, 10, 11, 12, 13, 14] (fun Y => Y.cell? ⟨X.heap.size, 0, none⟩ = some (.slice (some ⟨b, off, none⟩) s.length cap)) (by kernel_rfl) ?_
          have q0 : But Kb X1 X1.drew := .of_below (below_drew (Below.refl _ _))
          have HeldS := HSt.out _ q0
          refine Rg.wpD_load 0 (v := ?_) (by simp only [List.getElem?_toArray, List.getElem?_cons_zero]; rfl) (by kernel_rfl) (by kernel_rfl) (by intro _ _ _ h; exact h) HeldS (by rfl) (fun wz hz => ?_) ?_
          rotate_left
          · first | (go_simp; done) | (go_simp; with_reducible rfl)
          simp only [Act.put, List.setIfInBounds_toArray, List.set_cons_succ, List.set_cons_zero]
          refine Rg.wpD_load 1 (v := ?_) (by simp only [List.getElem?_toArray, List.getElem?_cons_succ, List.getElem?_cons_zero]; rfl) (by kernel_rfl) (by kernel_rfl) (by intro _ _ _ h; exact h) HeldS (by rfl) (fun wz hz => ?_) ?_
          rotate_left
          · first | (go_simp; done) | (go_simp; with_reducible rfl)
          simp only [Act.put, List.setIfInBounds_toArray, List.set_cons_succ, List.set_cons_zero]
          refine Rg.wpD_do 2 (by kernel_rfl) (by simp only [List.getElem?_toArray, List.getElem?_cons_succ, List.getElem?_cons_zero]; rfl) (fun K hK => ?_)
          go_simp
          go_at_call 16
          refine Calls.mono (HFN.out _ q0) ?_
          rintro r X2 ⟨rfl, hww⟩
          have b2 : But Kb X1 X2 := by rw [hww]; exact .of_below (below_drew (Below.refl _ _))
          have hK2 : Kn X2 Kb s.length T.es.length (upV d T s) := by rw [hww]; exact HKn.out.kept rfl
          clear hww
          refine hK _ _ (fun _ => HSt.out _ b2) ?_
          clear hK K HeldS
          have HeldS := HSt.out _ b2
          refine Rg.wpD_load 3 (v := ?_) (by simp only [List.getElem?_toArray, List.getElem?_cons_succ, List.getElem?_cons_zero]; rfl) (by kernel_rfl) (by kernel_rfl) (by intro _ _ _ h; exact h) HeldS (by rfl) (fun wz hz => ?_) ?_
          rotate_left
          · first | (go_simp; done) | (go_simp; with_reducible rfl)
          simp only [Act.put, List.setIfInBounds_toArray, List.set_cons_succ, List.set_cons_zero]
          refine Rg.wpD_load 4 (v := ?_) (by simp only [List.getElem?_toArray, List.getElem?_cons_succ, List.getElem?_cons_zero]; rfl) (by kernel_rfl) (by kernel_rfl) (by intro _ _ _ h; exact h) HeldS (by rfl) (fun wz hz => ?_) ?_
          rotate_left
          · first | (go_simp; done) | (go_simp; with_reducible rfl)
          simp only [Act.put, List.setIfInBounds_toArray, List.set_cons_succ, List.set_cons_zero]
          refine Rg.wpD_skip 5 (by simp only [List.getElem?_toArray, List.getElem?_cons_succ, List.getElem?_cons_zero]; rfl) (by kernel_rfl) (by kernel_rfl) (by intro _ _ _ h; exact h) HeldS (by rfl) ?_
          simp only [Act.put, List.setIfInBounds_toArray, List.set_cons_succ, List.set_cons_zero]
          refine Rg.wpD_skip 6 (by simp only [List.getElem?_toArray, List.getElem?_cons_succ, List.getElem?_cons_zero]; rfl) (by kernel_rfl) (by kernel_rfl) (by intro _ _ _ h; exact h) HeldS (by rfl) ?_
          simp only [Act.put, List.setIfInBounds_toArray, List.set_cons_succ, List.set_cons_zero]
          refine Rg.wpD_skip 7 (by simp only [List.getElem?_toArray, List.getElem?_cons_succ, List.getElem?_cons_zero]; rfl) (by kernel_rfl) (by kernel_rfl) (by intro _ _ _ h; exact h) HeldS (by rfl) ?_
          simp only [Act.put, List.setIfInBounds_toArray, List.set_cons_succ, List.set_cons_zero]
          refine Rg.wpD_skip 8 (by simp only [List.getElem?_toArray, List.getElem?_cons_succ, List.getElem?_cons_zero]; rfl) (by kernel_rfl) (by kernel_rfl) (by intro _ _ _ h; exact h) HeldS (by rfl) ?_
          simp only [Act.put, List.setIfInBounds_toArray, List.set_cons_succ, List.set_cons_zero]
          refine Rg.wpD_skip 9 (by simp only [List.getElem?_toArray, List.getElem?_cons_succ, List.getElem?_cons_zero]; rfl) (by kernel_rfl) (by kernel_rfl) (by intro _ _ _ h; exact h) HeldS (by rfl) ?_
          simp only [Act.put, List.setIfInBounds_toArray, List.set_cons_succ, List.set_cons_zero]
          refine Rg.wpD_skip 10 (by simp only [List.getElem?_toArray, List.getElem?_cons_succ, List.getElem?_cons_zero]; rfl) (by kernel_rfl) (by kernel_rfl) (by intro _ _ _ h; exact h) HeldS (by rfl) ?_
          simp only [Act.put, List.setIfInBounds_toArray, List.set_cons_succ, List.set_cons_zero]
          refine Rg.wpD_skip 11 (by simp only [List.getElem?_toArray, List.getElem?_cons_succ, List.getElem?_cons_zero]; rfl) (by kernel_rfl) (by kernel_rfl) (by intro _ _ _ h; exact h) HeldS (by rfl) ?_
          simp only [Act.put, List.setIfInBounds_toArray, List.set_cons_succ, List.set_cons_zero]
          refine Rg.wpD_skip 12 (by simp only [List.getElem?_toArray, List.getElem?_cons_succ, List.getElem?_cons_zero]; rfl) (by kernel_rfl) (by kernel_rfl) (by intro _ _ _ h; exact h) HeldS (by rfl) ?_
          simp only [Act.put, List.setIfInBounds_toArray, List.set_cons_succ, List.set_cons_zero]
          refine Rg.wpD_skip 13 (by simp only [List.getElem?_toArray, List.getElem?_cons_succ, List.getElem?_cons_zero]; rfl) (by kernel_rfl) (by kernel_rfl) (by intro _ _ _ h; exact h) HeldS (by rfl) ?_
          simp only [Act.put, List.setIfInBounds_toArray, List.set_cons_succ, List.set_cons_zero]
          refine Rg.wpD_skip 14 (by simp only [List.getElem?_toArray, List.getElem?_cons_succ, List.getElem?_cons_zero]; rfl) (by kernel_rfl) (by kernel_rfl) (by intro _ _ _ h; exact h) HeldS (by rfl) ?_
          simp only [Act.put, List.setIfInBounds_toArray, List.set_cons_succ, List.set_cons_zero]
          refine Rg.wpD_pure 15 (v := ?_) (by simp only [List.getElem?_toArray, List.getElem?_cons_succ, List.getElem?_cons_zero]; rfl) (by kernel_rfl) (by kernel_rfl) (by intro _ _ _ h; exact h) (by rfl) (fun wz => ?_) ?_
          rotate_left
          · first | (go_simp; done) | (go_simp; with_reducible rfl)
          simp only [Act.put, List.setIfInBounds_toArray, List.set_cons_succ, List.set_cons_zero]
          refine Rg.wpD_pure 16 (v := ?_) (by simp only [List.getElem?_toArray, List.getElem?_cons_succ, List.getElem?_cons_zero]; rfl) (by kernel_rfl) (by kernel_rfl) (by intro _ _ _ h; exact h) (by rfl) (fun wz => ?_) ?_
          rotate_left
          · first | (go_simp; done) | (go_simp; with_reducible rfl)
          simp only [Act.put, List.setIfInBounds_toArray, List.set_cons_succ, List.set_cons_zero]
          refine Rg.wpD_done (by kernel_rfl) ?_
          have FIN : Hid (But Kb X X2 ∧ Kn X2 Kb s.length T.es.length (upV d T s)) := ⟨HB1.out.2.1.trans b2, hK2⟩
          clear b2 hK2 q0 HSt HFN
          go_wp2
          go_ret
          exact ⟨rfl, FIN.out⟩
        · have hn2 : n < T.es.length := by omega
          obtain rfl : V = upV d T s k n := by rw [hV1, if_neg (by omega), Int.toNat_natCast]
          have hn0 : (0 : Int) ≤ (n : Int) := by omega
          clear hV1
          generalize hUV : upV d T s k n = UV
          have HFR1 : Hid (∀ Y, But Kb X1 Y → Kn Y Kb s.length T.es.length (upV d T s) → Calls Try.prog 39 #[T.p, .int .i64 n, .agg #[.slice (some ⟨b, off, none⟩) s.length cap], .int .i64 (M : Int), .int .i64 D, .slice (some ⟨Kb, 0, none⟩) L L] Y fun r X' => r = .returned (.bool UV) ∧ But Kb Y X' ∧ Kn X' Kb s.length T.es.length (upV d T s)) := fun Y h1 h2 => by
            have h := HFR.out n Y hn2 h1 h2
            rw [hUV] at h
            exact h
          clear hUV
          go_enter Try.func45, Try.ntmps45
          go_upto_region 10 with fail
          first | rw [hX1] | skip
          clear hX1 c0 y0
          refine Rg.wpD_begin [0, 1, 2, 3, 4, 5, 6, 7, 8, 9, 10, 11, 12, 13] (fun Y => Y.cell? ⟨X.heap.size, 0, none⟩ = some (.slice (some ⟨b, off, none⟩) s.length cap)) (by kernel_rfl) ?_
          have q0 : But Kb X1 X1.drew := .of_below (below_drew (Below.refl _ _))
          have HeldS := HSt.out _ q0
          refine Rg.wpD_load 0 (v := ?_) (by simp only [List.getElem?_toArray, List.getElem?_cons_zero]; rfl) (by kernel_rfl) (by kernel_rfl) (by intro _ _ _ h; exact h) HeldS (by rfl) (fun wz hz => ?_) ?_
          rotate_left
          · first | (go_simp; done) | (go_simp; with_reducible rfl)
          simp only [Act.put, List.setIfInBounds_toArray, List.set_cons_succ, List.set_cons_zero]
          refine Rg.wpD_load 1 (v := ?_) (by simp only [List.getElem?_toArray, List.getElem?_cons_succ, List.getElem?_cons_zero]; rfl) (by kernel_rfl) (by kernel_rfl) (by intro _ _ _ h; exact h) HeldS (by rfl) (fun wz hz => ?_) ?_
          rotate_left
          · first | (go_simp; done) | (go_simp; with_reducible rfl)
          simp only [Act.put, List.setIfInBounds_toArray, List.set_cons_succ, List.set_cons_zero]
          refine Rg.wpD_do 2 (by kernel_rfl) (by simp only [List.getElem?_toArray, List.getElem?_cons_succ, List.getElem?_cons_zero]; rfl) (fun K hK => ?_)
          go_simp
          go_at_call 16
          refine Calls.mono (HFN.out _ q0) ?_
          rintro r X2 ⟨rfl, hww⟩
          have b2 : But Kb X1 X2 := by rw [hww]; exact .of_below (below_drew (Below.refl _ _))
          have hK2 : Kn X2 Kb s.length T.es.length (upV d T s) := by rw [hww]; exact HKn.out.kept rfl
          clear hww
          refine hK _ _ (fun _ => HSt.out _ b2) ?_
          clear hK K HeldS
          have HeldS := HSt.out _ b2
          refine Rg.wpD_load 3 (v := ?_) (by simp only [List.getElem?_toArray, List.getElem?_cons_succ, List.getElem?_cons_zero]; rfl) (by kernel_rfl) (by kernel_rfl) (by intro _ _ _ h; exact h) HeldS (by rfl) (fun wz hz => ?_) ?_
          rotate_left
          · first | (go_simp; done) | (go_simp; with_reducible rfl)
          simp only [Act.put, List.setIfInBounds_toArray, List.set_cons_succ, List.set_cons_zero]
          refine Rg.wpD_load 4 (v := ?_) (by simp only [List.getElem?_toArray, List.getElem?_cons_succ, List.getElem?_cons_zero]; rfl) (by kernel_rfl) (by kernel_rfl) (by intro _ _ _ h; exact h) HeldS (by rfl) (fun wz hz => ?_) ?_
          rotate_left
          · first | (go_simp; done) | (go_simp; with_reducible rfl)
          simp only [Act.put, List.setIfInBounds_toArray, List.set_cons_succ, List.set_cons_zero]
          refine Rg.wpD_load 5 (v := ?_) (by simp only [List.getElem?_toArray, List.getElem?_cons_succ, List.getElem?_cons_zero]; rfl) (by kernel_rfl) (by kernel_rfl) (by intro _ _ _ h; exact h) HeldS (by rfl) (fun wz hz => ?_) ?_
          rotate_left
          · first | (go_simp; done) | (go_simp; with_reducible rfl)
          simp only [Act.put, List.setIfInBounds_toArray, List.set_cons_succ, List.set_cons_zero]
          refine Rg.wpD_load 6 (v := ?_) (by simp only [List.getElem?_toArray, List.getElem?_cons_succ, List.getElem?_cons_zero]; rfl) (by kernel_rfl) (by kernel_rfl) (by intro _ _ _ h; exact h) HeldS (by rfl) (fun wz hz => ?_) ?_
          rotate_left
          · first | (go_simp; done) | (go_simp; with_reducible rfl)
          simp only [Act.put, List.setIfInBounds_toArray, List.set_cons_succ, List.set_cons_zero]
          refine Rg.wpD_load 7 (v := ?_) (by simp only [List.getElem?_toArray, List.getElem?_cons_succ, List.getElem?_cons_zero]; rfl) (by kernel_rfl) (by kernel_rfl) (by intro _ _ _ h; exact h) HeldS (by rfl) (fun wz hz => ?_) ?_
          rotate_left
          · first | (go_simp; done) | (go_simp; with_reducible rfl)
          simp only [Act.put, List.setIfInBounds_toArray, List.set_cons_succ, List.set_cons_zero]
          refine Rg.wpD_load 9 (v := ?_) (by simp only [List.getElem?_toArray, List.getElem?_cons_succ, List.getElem?_cons_zero]; rfl) (by kernel_rfl) (by kernel_rfl) (by intro _ _ _ h; exact h) HeldS (by rfl) (fun wz hz => ?_) ?_
          rotate_left
          · first | (go_simp; done) | (go_simp; with_reducible rfl)
          simp only [Act.put, List.setIfInBounds_toArray, List.set_cons_succ, List.set_cons_zero]
          refine Rg.wpD_load 10 (v := ?_) (by simp only [List.getElem?_toArray, List.getElem?_cons_succ, List.getElem?_cons_zero]; rfl) (by kernel_rfl) (by kernel_rfl) (by intro _ _ _ h; exact h) HeldS (by rfl) (fun wz hz => ?_) ?_
          rotate_left
          · first | (go_simp; done) | (go_simp; with_reducible rfl)
          simp only [Act.put, List.setIfInBounds_toArray, List.set_cons_succ, List.set_cons_zero]
          refine Rg.wpD_load 11 (v := ?_) (by simp only [List.getElem?_toArray, List.getElem?_cons_succ, List.getElem?_cons_zero]; rfl) (by kernel_rfl) (by kernel_rfl) (by intro _ _ _ h; exact h) HeldS (by rfl) (fun wz hz => ?_) ?_
          rotate_left
          · first | (go_simp; done) | (go_simp; with_reducible rfl)
          simp only [Act.put, List.setIfInBounds_toArray, List.set_cons_succ, List.set_cons_zero]
          refine Rg.wpD_load 12 (v := ?_) (by simp only [List.getElem?_toArray, List.getElem?_cons_succ, List.getElem?_cons_zero]; rfl) (by kernel_rfl) (by kernel_rfl) (by intro _ _ _ h; exact h) HeldS (by rfl) (fun wz hz => ?_) ?_
          rotate_left
          · first | (go_simp; done) | (go_simp; with_reducible rfl)
          simp only [Act.put, List.setIfInBounds_toArray, List.set_cons_succ, List.set_cons_zero]
          refine Rg.wpD_load 13 (v := ?_) (by simp only [List.getElem?_toArray, List.getElem?_cons_succ, List.getElem?_cons_zero]; rfl) (by kernel_rfl) (by kernel_rfl) (by intro _ _ _ h; exact h) HeldS (by rfl) (fun wz hz => ?_) ?_
          rotate_left
          · first | (go_simp; done) | (go_simp; with_reducible rfl)
          simp only [Act.put, List.setIfInBounds_toArray, List.set_cons_succ, List.set_cons_zero]
          refine Rg.wpD_do 8 (by kernel_rfl) (by simp only [List.getElem?_toArray, List.getElem?_cons_succ, List.getElem?_cons_zero]; rfl) (fun K hK => ?_)
          go_simp
          go_at_call 16
          refine Calls.mono (HFN.out _ b2) ?_
          rintro r X3 ⟨rfl, hww⟩
          have b3 : But Kb X1 X3 := by rw [hww]; exact b2
          have hK3 : Kn X3 Kb s.length T.es.length (upV d T s) := by rw [hww]; exact hK2.kept rfl
          clear hww
          refine hK _ _ (fun _ => HSt.out _ b3) ?_
          clear hK K HeldS
          refine Rg.wpD_do 14 (by kernel_rfl) (by simp only [List.getElem?_toArray, List.getElem?_cons_succ, List.getElem?_cons_zero]; rfl) (fun K hK => ?_)
          go_simp
          go_at_call 39
          refine Calls.mono (HFR1.out _ b3 hK3) ?_
          rintro r X4 ⟨rfl, b4, hK4⟩
          refine hK _ _ (fun h => absurd h (by decide)) ?_
          clear hK K
          refine Rg.wpD_pure 15 (v := ?_) (by simp only [List.getElem?_toArray, List.getElem?_cons_succ, List.getElem?_cons_zero]; rfl) (by kernel_rfl) (by kernel_rfl) (by intro _ _ _ h; exact h) (by rfl) (fun wz => ?_) ?_
          rotate_left
          · first | (go_simp; done) | (go_simp; with_reducible rfl)
          simp only [Act.put, List.setIfInBounds_toArray, List.set_cons_succ, List.set_cons_zero]
          refine Rg.wpD_pure 16 (v := ?_) (by simp only [List.getElem?_toArray, List.getElem?_cons_succ, List.getElem?_cons_zero]; rfl) (by kernel_rfl) (by kernel_rfl) (by intro _ _ _ h; exact h) (by rfl) (fun wz => ?_) ?_
          rotate_left
          · first | (go_simp; done) | (go_simp; with_reducible rfl)
          simp only [Act.put, List.setIfInBounds_toArray, List.set_cons_succ, List.set_cons_zero]
          refine Rg.wpD_done (by kernel_rfl) ?_
          have FIN : Hid (But Kb X X4 ∧ Kn X4 Kb s.length T.es.length (upV d T s)) := ⟨(HB1.out.2.1.trans b3).trans b4, hK4⟩
          clear b2 b3 b4 hK2 hK3 hK4 q0 HSt HFN HFR1
          go_wp2
          go_ret
          exact ⟨rfl, FIN.out⟩
      · have hV1 : V = if beforeV T.es e = -1 then false else upV d T s k (beforeV T.es e).toNat := by
          rw [HV.out, oq, Mt.ahead_next HE.out.tree.ok he]
          show List.any (if beforeV T.es e = -1 then [] else (beforeV T.es e).toNat :: (if false = true then _ else [])) _ = _
          split <;> simp
        have HFN : Hid (∀ Y, But Kb X1 Y → Calls Try.prog 49 #[T.p, .int .i64 e] Y fun x w' => x = .returned (.int .i64 (beforeV T.es e)) ∧ ∃ n, w' = Y.drewN n) := fun Y hY => before_any T e Y (HE.out.tree.next (HBB.out Y hY))
        have p3 : (q.1 == 3) = true := by rw [oq]; rfl
        have o1 : (q.1 == 1) = false := by rw [oq]; rfl
        have o2 : (q.1 == 2) = false := by rw [oq]; rfl
        have hnx := Mt.beforeV_lt HE.out.tree.ok he
        have HSt : Hid (∀ Y, But Kb X1 Y → Y.cell? ⟨X.heap.size, 0, none⟩ = some (.slice (some ⟨b, off, none⟩) s.length cap)) := fun Y hY => (blk1 (hY.blk HB1.out.2.2.1 HB1.out.2.2.2)).1
        clear hq HV oq hB1 k1 b1
        generalize beforeV T.es (e : Int) = x0 at *
        rcases hnx with rfl | ⟨n, rfl, hn⟩
        · obtain rfl : V = false := hV1
          go_enter Try.func45, Try.ntmps45
          go_upto_region 12 with fail
          first | rw [hX1] | skip
          clear hX1 c0 y0
          refine Rg.wpD_begin [0, 1, 2, 3, 4, 5, 6, 7, 8, 9, 10, 11, 12, 13, 14] (fun Y => Y.cell? ⟨X.heap.size, 0, none⟩ = some (.slice (some ⟨b, off, none⟩) s.length cap)) (by kernel_rfl) ?_
          have q0 : But Kb X1 X1.drew := .of_below (below_drew (Below.refl _ _))
          have HeldS := HSt.out _ q0
          refine Rg.wpD_load 0 (v := ?_) (by simp only [List.getElem?_toArray, List.getElem?_cons_zero]; rfl) (by kernel_rfl) (by kernel_rfl) (by intro _ _ _ h; exact h) HeldS (by rfl) (fun wz hz => ?_) ?_
          rotate_left
          · first | (go_simp; done) | (go_simp; with_reducible rfl)
          simp only [Act.put, List.setIfInBounds_toArray, List.set_cons_succ, List.set_cons_zero]
          refine Rg.wpD_load 1 (v := ?_) (by simp only [List.getElem?_toArray, List.getElem?_cons_succ, List.getElem?_cons_zero]; rfl) (by kernel_rfl) (by kernel_rfl) (by intro _ _ _ h; exact h) HeldS (by rfl) (fun wz hz => ?_) ?_
          rotate_left
          · first | (go_simp; done) | (go_simp; with_reducible rfl)
          simp only [Act.put, List.setIfInBounds_toArray, List.set_cons_succ, List.set_cons_zero]
          refine Rg.wpD_do 2 (by kernel_rfl) (by simp only [List.getElem?_toArray, List.getElem?_cons_succ, List.getElem?_cons_zero]; rfl) (fun K hK => ?_)
          go_simp
          go_at_call 49
          refine Calls.mono (HFN.out _ q0) ?_
          rintro r X2 ⟨rfl, n2, hww⟩
          have b2 : But Kb X1 X2 := by rw [hww]; exact .of_below (below_drewN' (below_drew (Below.refl _ _)) n2)
          have hK2 : Kn X2 Kb s.length T.es.length (upV d T s) := by rw [hww]; exact HKn.out.kept rfl
          clear hww
          refine hK _ _ (fun _ => HSt.out _ b2) ?_
          clear hK K HeldS
          have HeldS := HSt.out _ b2
          refine Rg.wpD_load 3 (v := ?_) (by simp only [List.getElem?_toArray, List.getElem?_cons_succ, List.getElem?_cons_zero]; rfl) (by kernel_rfl) (by kernel_rfl) (by intro _ _ _ h; exact h) HeldS (by rfl) (fun wz hz => ?_) ?_
          rotate_left
          · first | (go_simp; done) | (go_simp; with_reducible rfl)
          simp only [Act.put, List.setIfInBounds_toArray, List.set_cons_succ, List.set_cons_zero]
          refine Rg.wpD_load 4 (v := ?_) (by simp only [List.getElem?_toArray, List.getElem?_cons_succ, List.getElem?_cons_zero]; rfl) (by kernel_rfl) (by kernel_rfl) (by intro _ _ _ h; exact h) HeldS (by rfl) (fun wz hz => ?_) ?_
          rotate_left
          · first | (go_simp; done) | (go_simp; with_reducible rfl)
          simp only [Act.put, List.setIfInBounds_toArray, List.set_cons_succ, List.set_cons_zero]
          refine Rg.wpD_skip 5 (by simp only [List.getElem?_toArray, List.getElem?_cons_succ, List.getElem?_cons_zero]; rfl) (by kernel_rfl) (by kernel_rfl) (by intro _ _ _ h; exact h) HeldS (by rfl) ?_
          simp only [Act.put, List.setIfInBounds_toArray, List.set_cons_succ, List.set_cons_zero]
          refine Rg.wpD_skip 6 (by simp only [List.getElem?_toArray, List.getElem?_cons_succ, List.getElem?_cons_zero]; rfl) (by kernel_rfl) (by kernel_rfl) (by intro _ _ _ h; exact h) HeldS (by rfl) ?_
          simp only [Act.put, List.setIfInBounds_toArray, List.set_cons_succ, List.set_cons_zero]
          refine Rg.wpD_skip 7 (by simp only [List.getElem?_toArray, List.getElem?_cons_succ, List.getElem?_cons_zero]; rfl) (by kernel_rfl) (by kernel_rfl) (by intro _ _ _ h; exact h) HeldS (by rfl) ?_
          simp only [Act.put, List.setIfInBounds_toArray, List.set_cons_succ, List.set_cons_zero]
          refine Rg.wpD_skip 8 (by simp only [List.getElem?_toArray, List.getElem?_cons_succ, List.getElem?_cons_zero]; rfl) (by kernel_rfl) (by kernel_rfl) (by intro _ _ _ h; exact h) HeldS (by rfl) ?_
          simp only [Act.put, List.setIfInBounds_toArray, List.set_cons_succ, List.set_cons_zero]
          refine Rg.wpD_skip 9 (by simp only [List.getElem?_toArray, List.getElem?_cons_succ, List.getElem?_cons_zero]; rfl) (by kernel_rfl) (by kernel_rfl) (by intro _ _ _ h; exact h) HeldS (by rfl) ?_
          simp only [Act.put, List.setIfInBounds_toArray, List.set_cons_succ, List.set_cons_zero]
          refine Rg.wpD_skip 10 (by simp only [List.getElem?_toArray, List.getElem?_cons_succ, List.getElem?_cons_zero]; rfl) (by kernel_rfl) (by kernel_rfl) (by intro _ _ _ h; exact h) HeldS (by rfl) ?_
          simp only [Act.put, List.setIfInBounds_toArray, List.set_cons_succ, List.set_cons_zero]
          refine Rg.wpD_skip 11 (by simp only [List.getElem?_toArray, List.getElem?_cons_succ, List.getElem?_cons_zero]; rfl) (by kernel_rfl) (by kernel_rfl) (by intro _ _ _ h; exact h) HeldS (by rfl) ?_
          simp only [Act.put, List.setIfInBounds_toArray, List.set_cons_succ, List.set_cons_zero]
          refine Rg.wpD_skip 12 (by simp only [List.getElem?_toArray, List.getElem?_cons_succ, List.getElem?_cons_zero]; rfl) (by kernel_rfl) (by kernel_rfl) (by intro _ _ _ h; exact h) HeldS (by rfl) ?_
          simp only [Act.put, List.setIfInBounds_toArray, List.set_cons_succ, List.set_cons_zero]
          refine Rg.wpD_skip 13 (by simp only [List.getElem?_toArray, List.getElem?_cons_succ, List.getElem?_cons_zero]; rfl) (by kernel_rfl) (by kernel_rfl) (by intro _ _ _ h; exact h) HeldS (by rfl) ?_
          simp only [Act.put, List.setIfInBounds_toArray, List.set_cons_succ, List.set_cons_zero]
          refine Rg.wpD_skip 14 (by simp only [List.getElem?_toArray, List.getElem?_cons_succ, List.getElem?_cons_zero]; rfl) (by kernel_rfl) (by kernel_rfl) (by intro _ _ _ h; exact h) HeldS (by rfl) ?_
          simp only [Act.put, List.setIfInBounds_toArray, List.set_cons_succ, List.set_cons_zero]
          refine Rg.wpD_pure 15 (v := ?_) (by simp only [List.getElem?_toArray, List.getElem?_cons_succ, List.getElem?_cons_zero]; rfl) (by kernel_rfl) (by kernel_rfl) (by intro _ _ _ h; exact h) (by rfl) (fun wz => ?_) ?_
          rotate_left
          · first | (go_simp; done) | (go_simp; with_reducible rfl)
          simp only [Act.put, List.setIfInBounds_toArray, List.set_cons_succ, List.set_cons_zero]
          refine Rg.wpD_pure 16 (v := ?_) (by simp only [List.getElem?_toArray, List.getElem?_cons_succ, List.getElem?_cons_zero]; rfl) (by kernel_rfl) (by kernel_rfl) (by intro _ _ _ h; exact h) (by rfl) (fun wz => ?_) ?_
          rotate_left
          · first | (go_simp; done) | (go_simp; with_reducible rfl)
          simp only [Act.put, List.setIfInBounds_toArray, List.set_cons_succ, List.set_cons_zero]
          refine Rg.wpD_done (by kernel_rfl) ?_
          have FIN : Hid (But Kb X X2 ∧ Kn X2 Kb s.length T.es.length (upV d T s)) := ⟨HB1.out.2.1.trans b2, hK2⟩
          clear b2 hK2 q0 HSt HFN
          go_wp2
          go_ret
          exact ⟨rfl, FIN.out⟩
        · have hn2 : n < T.es.length := by omega
          obtain rfl : V = upV d T s k n := by rw [hV1, if_neg (by omega), Int.toNat_natCast]
          have hn0 : (0 : Int) ≤ (n : Int) := by omega
          clear hV1
          generalize hUV : upV d T s k n = UV
          have HFR1 : Hid (∀ Y, But Kb X1 Y → Kn Y Kb s.length T.es.length (upV d T s) → Calls Try.prog 39 #[T.p, .int .i64 n, .agg #[.slice (some ⟨b, off, none⟩) s.length cap], .int .i64 (M : Int), .int .i64 D, .slice (some ⟨Kb, 0, none⟩) L L] Y fun r X' => r = .returned (.bool UV) ∧ But Kb Y X' ∧ Kn X' Kb s.length T.es.length (upV d T s)) := fun Y h1 h2 => by
            have h := HFR.out n Y hn2 h1 h2
            rw [hUV] at h
            exact h
          clear hUV
          go_enter Try.func45, Try.ntmps45
          go_upto_region 12 with fail
          first | rw [hX1] | skip
          clear hX1 c0 y0
          refine Rg.wpD_begin [0, 1, 2, 3, 4, 5, 6, 7, 8, 9, 10, 11, 12, 13] (fun Y => Y.cell? ⟨X.heap.size, 0, none⟩ = some (.slice (some ⟨b, off, none⟩) s.length cap)) (by kernel_rfl) ?_
          have q0 : But Kb X1 X1.drew := .of_below (below_drew (Below.refl _ _))
          have HeldS := HSt.out _ q0
          refine Rg.wpD_load 0 (v := ?_) (by simp only [List.getElem?_toArray, List.getElem?_cons_zero]; rfl) (by kernel_rfl) (by kernel_rfl) (by intro _ _ _ h; exact h) HeldS (by rfl) (fun wz hz => ?_) ?_
          rotate_left
          · first | (go_simp; done) | (go_simp; with_reducible rfl)
          simp only [Act.put, List.setIfInBounds_toArray, List.set_cons_succ, List.set_cons_zero]
          refine Rg.wpD_load 1 (v := ?_) (by simp only [List.getElem?_toArray, List.getElem?_cons_succ, List.getElem?_cons_zero]; rfl) (by kernel_rfl) (by kernel_rfl) (by intro _ _ _ h; exact h) HeldS (by rfl) (fun wz hz => ?_) ?_
          rotate_left
          · first | (go_simp; done) | (go_simp; with_reducible rfl)
          simp only [Act.put, List.setIfInBounds_toArray, List.set_cons_succ, List.set_cons_zero]
          refine Rg.wpD_do 2 (by kernel_rfl) (by simp only [List.getElem?_toArray, List.getElem?_cons_succ, List.getElem?_cons_zero]; rfl) (fun K hK => ?_)
          go_simp
          go_at_call 49
          refine Calls.mono (HFN.out _ q0) ?_
          rintro r X2 ⟨rfl, n2, hww⟩
          have b2 : But Kb X1 X2 := by rw [hww]; exact .of_below (below_drewN' (below_drew (Below.refl _ _)) n2)
          have hK2 : Kn X2 Kb s.length T.es.length (upV d T s) := by rw [hww]; exact HKn.out.kept rfl
          clear hww
          refine hK _ _ (fun _ => HSt.out _ b2) ?_
          clear hK K HeldS
          have HeldS := HSt.out _ b2
          refine Rg.wpD_load 3 (v := ?_) (by simp only [List.getElem?_toArray, List.getElem?_cons_succ, List.getElem?_cons_zero]; rfl) (by kernel_rfl) (by kernel_rfl) (by intro _ _ _ h; exact h) HeldS (by rfl) (fun wz hz => ?_) ?_
          rotate_left
          · first | (go_simp; done) | (go_simp; with_reducible rfl)
          simp only [Act.put, List.setIfInBounds_toArray, List.set_cons_succ, List.set_cons_zero]
          refine Rg.wpD_load 4 (v := ?_) (by simp only [List.getElem?_toArray, List.getElem?_cons_succ, List.getElem?_cons_zero]; rfl) (by kernel_rfl) (by kernel_rfl) (by intro _ _ _ h; exact h) HeldS (by rfl) (fun wz hz => ?_) ?_
          rotate_left
          · first | (go_simp; done) | (go_simp; with_reducible rfl)
          simp only [Act.put, List.setIfInBounds_toArray, List.set_cons_succ, List.set_cons_zero]
          refine Rg.wpD_load 5 (v := ?_) (by simp only [List.getElem?_toArray, List.getElem?_cons_succ, List.getElem?_cons_zero]; rfl) (by kernel_rfl) (by kernel_rfl) (by intro _ _ _ h; exact h) HeldS (by rfl) (fun wz hz => ?_) ?_
          rotate_left
          · first | (go_simp; done) | (go_simp; with_reducible rfl)
          simp only [Act.put, List.setIfInBounds_toArray, List.set_cons_succ, List.set_cons_zero]
          refine Rg.wpD_load 6 (v := ?_) (by simp only [List.getElem?_toArray, List.getElem?_cons_succ, List.getElem?_cons_zero]; rfl) (by kernel_rfl) (by kernel_rfl) (by intro _ _ _ h; exact h) HeldS (by rfl) (fun wz hz => ?_) ?_
          rotate_left
          · first | (go_simp; done) | (go_simp; with_reducible rfl)
          simp only [Act.put, List.setIfInBounds_toArray, List.set_cons_succ, List.set_cons_zero]
          refine Rg.wpD_load 7 (v := ?_) (by simp only [List.getElem?_toArray, List.getElem?_cons_succ, List.getElem?_cons_zero]; rfl) (by kernel_rfl) (by kernel_rfl) (by intro _ _ _ h; exact h) HeldS (by rfl) (fun wz hz => ?_) ?_
          rotate_left
          · first | (go_simp; done) | (go_simp; with_reducible rfl)
          simp only [Act.put, List.setIfInBounds_toArray, List.set_cons_succ, List.set_cons_zero]
          refine Rg.wpD_load 9 (v := ?_) (by simp only [List.getElem?_toArray, List.getElem?_cons_succ, List.getElem?_cons_zero]; rfl) (by kernel_rfl) (by kernel_rfl) (by intro _ _ _ h; exact h) HeldS (by rfl) (fun wz hz => ?_) ?_
          rotate_left
          · first | (go_simp; done) | (go_simp; with_reducible rfl)
          simp only [Act.put, List.setIfInBounds_toArray, List.set_cons_succ, List.set_cons_zero]
          refine Rg.wpD_load 10 (v := ?_) (by simp only [List.getElem?_toArray, List.getElem?_cons_succ, List.getElem?_cons_zero]; rfl) (by kernel_rfl) (by kernel_rfl) (by intro _ _ _ h; exact h) HeldS (by rfl) (fun wz hz => ?_) ?_
          rotate_left
          · first | (go_simp; done) | (go_simp; with_reducible rfl)
          simp only [Act.put, List.setIfInBounds_toArray, List.set_cons_succ, List.set_cons_zero]
          refine Rg.wpD_load 11 (v := ?_) (by simp only [List.getElem?_toArray, List.getElem?_cons_succ, List.getElem?_cons_zero]; rfl) (by kernel_rfl) (by kernel_rfl) (by intro _ _ _ h; exact h) HeldS (by rfl) (fun wz hz => ?_) ?_
          rotate_left
          · first | (go_simp; done) | (go_simp; with_reducible rfl)
          simp only [Act.put, List.setIfInBounds_toArray, List.set_cons_succ, List.set_cons_zero]
          refine Rg.wpD_load 12 (v := ?_) (by simp only [List.getElem?_toArray, List.getElem?_cons_succ, List.getElem?_cons_zero]; rfl) (by kernel_rfl) (by kernel_rfl) (by intro _ _ _ h; exact h) HeldS (by rfl) (fun wz hz => ?_) ?_
          rotate_left
          · first | (go_simp; done) | (go_simp; with_reducible rfl)
          simp only [Act.put, List.setIfInBounds_toArray, List.set_cons_succ, List.set_cons_zero]
          refine Rg.wpD_load 13 (v := ?_) (by simp only [List.getElem?_toArray, List.getElem?_cons_succ, List.getElem?_cons_zero]; rfl) (by kernel_rfl) (by kernel_rfl) (by intro _ _ _ h; exact h) HeldS (by rfl) (fun wz hz => ?_) ?_
          rotate_left
          · first | (go_simp; done) | (go_simp; with_reducible rfl)
          simp only [Act.put, List.setIfInBounds_toArray, List.set_cons_succ, List.set_cons_zero]
          refine Rg.wpD_do 8 (by kernel_rfl) (by simp only [List.getElem?_toArray, List.getElem?_cons_succ, List.getElem?_cons_zero]; rfl) (fun K hK => ?_)
          go_simp
          go_at_call 49
          refine Calls.mono (HFN.out _ b2) ?_
          rintro r X3 ⟨rfl, n3, hww⟩
          have b3 : But Kb X1 X3 := by rw [hww]; exact b2.trans (.of_below (below_drawn X2 n3))
          have hK3 : Kn X3 Kb s.length T.es.length (upV d T s) := by rw [hww]; exact hK2.kept rfl
          clear hww
          refine hK _ _ (fun _ => HSt.out _ b3) ?_
          clear hK K HeldS
          refine Rg.wpD_do 14 (by kernel_rfl) (by simp only [List.getElem?_toArray, List.getElem?_cons_succ, List.getElem?_cons_zero]; rfl) (fun K hK => ?_)
          go_simp
          go_at_call 39
          refine Calls.mono (HFR1.out _ b3 hK3) ?_
          rintro r X4 ⟨rfl, b4, hK4⟩
          refine hK _ _ (fun h => absurd h (by decide)) ?_
          clear hK K
          refine Rg.wpD_pure 15 (v := ?_) (by simp only [List.getElem?_toArray, List.getElem?_cons_succ, List.getElem?_cons_zero]; rfl) (by kernel_rfl) (by kernel_rfl) (by intro _ _ _ h; exact h) (by rfl) (fun wz => ?_) ?_
          rotate_left
          · first | (go_simp; done) | (go_simp; with_reducible rfl)
          simp only [Act.put, List.setIfInBounds_toArray, List.set_cons_succ, List.set_cons_zero]
          refine Rg.wpD_pure 16 (v := ?_) (by simp only [List.getElem?_toArray, List.getElem?_cons_succ, List.getElem?_cons_zero]; rfl) (by kernel_rfl) (by kernel_rfl) (by intro _ _ _ h; exact h) (by rfl) (fun wz => ?_) ?_
          rotate_left
          · first | (go_simp; done) | (go_simp; with_reducible rfl)
          simp only [Act.put, List.setIfInBounds_toArray, List.set_cons_succ, List.set_cons_zero]
          refine Rg.wpD_done (by kernel_rfl) ?_
          have FIN : Hid (But Kb X X4 ∧ Kn X4 Kb s.length T.es.length (upV d T s)) := ⟨(HB1.out.2.1.trans b3).trans b4, hK4⟩
          clear b2 b3 b4 hK2 hK3 hK4 q0 HSt HFN HFR1
          go_wp2
          go_ret
          exact ⟨rfl, FIN.out⟩

    · obtain rfl : V = false := by
        rw [HV.out, Mt.ahead_next HE.out.tree.ok he]
        have : Mt.nextV T.es q.1 e = -1 := by
          unfold Mt.nextV
          rw [if_neg (fun h => h.elim (fun h => h12 (.inl h)) (fun h => h23 (.inl h))), if_neg (fun h => h.elim (fun h => h23 (.inr h)) (fun h => h12 (.inr h)))]
        rw [this]
        rfl
      have p1 : (q.1 == 1) = false := by rw [beq_eq_false_iff_ne]; exact fun h => h12 (.inl h)
      have p4 : (q.1 == 4) = false := by rw [beq_eq_false_iff_ne]; exact fun h => h12 (.inr h)
      have p2 : (q.1 == 2) = false := by rw [beq_eq_false_iff_ne]; exact fun h => h23 (.inl h)
      have p3 : (q.1 == 3) = false := by rw [beq_eq_false_iff_ne]; exact fun h => h23 (.inr h)
      have FIN : Hid (But Kb X X1 ∧ Kn X1 Kb s.length T.es.length (upV d T s)) := ⟨HB1.out.2.1, HKn.out⟩
      clear h12 h23 HV hq hB1 k1 b1
      go_enter Try.func45, Try.ntmps45
      go_wp2
      go_ret
      exact ⟨rfl, FIN.out⟩

end Go.Proofs.Ytiaikkbmgnaikaa.Rf
