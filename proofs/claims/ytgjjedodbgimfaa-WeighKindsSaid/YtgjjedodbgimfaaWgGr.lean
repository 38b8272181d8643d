/- weigh: greatest, and Of at every selector. -/
import Derived.Test.YtgjjedodbgimfaaWgAll
namespace Go.Proofs.Ytgjjedodbgimfaa.Wg
open Go.Proofs.Ytgjjedodbgimfaa.Tre
open Go Go.RowKit Sl

/-- Where greatest stands. -/
structure GrSt (w : World) (o : Sm) (W : World) : Prop where
  z : Blk W w.heap.size 50 [.int .u8 0, .int .u8 0, .int .u8 0]
  o : Blk W (w.heap.size + 1) 50 [.int .u8 o.i, .int .u8 o.c, .int .u8 o.t]
  bl : Below w.heap.size w W
theorem GrSt.below {w : World} {o : Sm} {W W' : World} (h : GrSt w o W) (hb : Below W.heap.size W W') : GrSt w o W' := ⟨h.z.below hb h.z.lt, h.o.below hb h.o.lt, below_next h.bl hb⟩
theorem GrSt.set {w : World} {o : Sm} {W : World} (h : GrSt w o W) (o' : Sm) : GrSt w o' (set3 W (w.heap.size + 1) (.int .u8 o'.i) (.int .u8 o'.c) (.int .u8 o'.t)) :=
  ⟨h.z.kept (grown_set3 W _ _ _ _) (by simp), blk_set3 h.o _ _ _, below_grown h.bl (grown_set3 W _ _ _ _) h.bl.size (by omega)⟩

set_option maxRecDepth 100000 in
set_option maxHeartbeats 2000000 in
theorem great_any (d : Nat) (hd : d ≤ 7) (hS : SumsOK d) : GreatOK (d + 1) := by
  intro v l w hv
  obtain ⟨q, cap, rfl⟩ := RowT.len hv
  have hsh := RowT.short hv
  unfold maxLen at hsh
  obtain ⟨V, hV⟩ : ∃ V, greatV (d + 1) l = V := ⟨_, rfl⟩
  rw [hV]
  have HV : Hid (greatV (d + 1) l = V) := hV
  clear hV
  have HG : Hid (SumsOK d) := hS
  clear hS
  rw [show (9 - ((d + 1 : Nat) : Int)) = 8 - (d : Int) by omega]
  have hgt : ¬ (8 : Int) < 8 - (d : Int) := by omega
  obtain ⟨W, hW⟩ : ∃ W, (w.alloc (.cells #[.int .u8 0, .int .u8 0, .int .u8 0] 50)).alloc (.cells #[.int .u8 0, .int .u8 0, .int .u8 0] 50) = W := ⟨_, rfl⟩
  have S0 : GrSt w Sm.zero W := by
    rw [← hW]
    refine ⟨(Blk.new w 50 _).kept (World.grownBy_alloc _ _ none) (by simp), ?_, ((Below.refl _ w).alloc (Nat.le_refl _) _).alloc (by simp) _⟩
    have := Blk.new (w.alloc (.cells #[.int .u8 0, .int .u8 0, .int .u8 0] 50)) 50 [.int .u8 0, .int .u8 0, .int .u8 0]
    rwa [World.size_alloc] at this
  have HP : Hid (∀ X, Below w.heap.size w X → SelsR (d + 1) w.heap.size X (.slice q l.length cap) l) := fun X hX => SelsR.below (d + 1) hv hX
  clear hv
  go_enter Try.func36, Try.ntmps36
  go_upto_region 2 with fail
  clear hW
  go_wp2_with fail
  go_loopw [14] (fun x wr => ∃ (k : Nat) (o : Sm), x = .int .i64 k ∧ k ≤ l.length ∧ GrSt w o wr ∧ Hid ((l.take k).foldl (fun o s => heavier o (sumsV (greatV d) s)) Sm.zero = o) ∧ Hid o.ok) (fun x _ => l.length - (intOf x).toNat)
  case atStart => exact ⟨0, Sm.zero, rfl, Nat.zero_le _, S0, rfl, zero_ok⟩
  case round =>
    clear S0
    obtain ⟨k, o, rfl, hk, S, HO, HOK⟩ := hrel
    by_cases hlt : k < l.length
    · have hki : (k : Int) < (l.length : Int) := by omega
      obtain ⟨s, hs⟩ : ∃ s, l[k]? = some s := ⟨_, List.getElem?_eq_getElem hlt⟩
      have HO1 : Hid ((l.take (k + 1)).foldl (fun o s => heavier o (sumsV (greatV d) s)) Sm.zero = heavier o (sumsV (greatV d) s)) := by
        show _ = _
        rw [fold_take _ _ hs, show _ = o from HO]
      obtain ⟨b, off, x, hq, hbn, hc1, hc2, hx, hcell⟩ := SelsR.get ((show ∀ X, _ → _ from HP) wr S.bl) hs
      subst hq
      obtain ⟨qx, cx, rfl⟩ := RowT.len hx
      have bA : Below wr.heap.size wr (wr.alloc (.cells #[.slice qx s.length cx] 25)) := (Below.refl _ _).alloc (Nat.le_refl _) _
      have kA : Blk (wr.alloc (.cells #[.slice qx s.length cx] 25)) wr.heap.size 25 [.slice qx s.length cx] := Blk.new wr 25 _
      have S1 := S.below bA
      have hsu := (show SumsOK d from HG) (.slice qx s.length cx) s _ (((PartsR.mono hx S.bl.size).below bA).mono bA.size)
      have hO3 : w.heap.size + 1 < wr.heap.size := S.o.lt
      clear HO hs hx S bA
      go_upto_region 7 with fail
      clear hcell
      generalize wr.alloc (.cells #[.slice qx s.length cx] 25) = W1 at *
      obtain ⟨x0, _⟩ := blk1 kA
      unfold smV at hsu
      obtain ⟨n, hn⟩ : ∃ n, sumsV (greatV d) s = n := ⟨_, rfl⟩
      have hnok : Hid n.ok := by rw [← hn]; exact sumsV_ok _ _
      rw [hn] at hsu HO1
      clear hn
      go_wp2_with fail
      refine hsu.mono ?_
      clear hsu x0
      rintro e W2 ⟨rfl, b2⟩
      have S2 := S1.below b2
      have bB : Below W2.heap.size W2 (W2.alloc (.cells #[.int .u8 n.i, .int .u8 n.c, .int .u8 n.t] 50)) := (Below.refl _ _).alloc (Nat.le_refl _) _
      have kB : Blk (W2.alloc (.cells #[.int .u8 n.i, .int .u8 n.c, .int .u8 n.t] 50)) W2.heap.size 50 [.int .u8 n.i, .int .u8 n.c, .int .u8 n.t] := Blk.new W2 50 _
      have S3 := S2.below bB
      have hO4 : w.heap.size + 1 < W2.heap.size := S2.o.lt
      clear S1 b2 S2 bB kA
      go_upto_region 8 with fail
      generalize W2.alloc (.cells #[.int .u8 n.i, .int .u8 n.c, .int .u8 n.t] 50) = W3 at *
      generalize W2.heap.size = NB at *
      have HS : Hid (∀ X, Below W3.heap.size W3 X → X.cell? ⟨w.heap.size + 1, 0, none⟩ = some (.int .u8 o.i) ∧ X.cell? ⟨w.heap.size + 1, 1, none⟩ = some (.int .u8 o.c) ∧ X.cell? ⟨w.heap.size + 1, 2, none⟩ = some (.int .u8 o.t) ∧ X.cell? ⟨NB, 0, none⟩ = some (.int .u8 n.i) ∧ X.cell? ⟨NB, 1, none⟩ = some (.int .u8 n.c) ∧ X.cell? ⟨NB, 2, none⟩ = some (.int .u8 n.t)) := fun X hX => by
        obtain ⟨⟨o0, o1, o2⟩, _⟩ := blk3 (S3.below hX).o
        obtain ⟨⟨y0, y1, y2⟩, _⟩ := blk3 (kB.below hX kB.lt)
        exact ⟨o0, o1, o2, y0, y1, y2⟩
      have q0 : Below W3.heap.size W3 W3.drew := below_drew (Below.refl _ _)
      have HeldS := (show ∀ X, _ → _ from HS) _ q0
      have hw1 := weight_any n hnok W3.drew
      unfold smV at hw1
      refine Rg.wpD_begin [0, 1, 2, 3] (fun X => X.cell? ⟨w.heap.size + 1, 0, none⟩ = some (.int .u8 o.i) ∧ X.cell? ⟨w.heap.size + 1, 1, none⟩ = some (.int .u8 o.c) ∧ X.cell? ⟨w.heap.size + 1, 2, none⟩ = some (.int .u8 o.t) ∧ X.cell? ⟨NB, 0, none⟩ = some (.int .u8 n.i) ∧ X.cell? ⟨NB, 1, none⟩ = some (.int .u8 n.c) ∧ X.cell? ⟨NB, 2, none⟩ = some (.int .u8 n.t)) (by kernel_rfl) ?_
      refine Rg.wpD_load 0 (v := ?_) (by simp only [List.getElem?_toArray, List.getElem?_cons_zero]; rfl) (by kernel_rfl) (by kernel_rfl) (by intro _ _ _ h; exact h) HeldS (by rfl) (fun wz hz => ?_) ?_
      rotate_left
      · first | (go_simp; done) | (go_simp; with_reducible rfl)
      simp only [Act.put, List.setIfInBounds_toArray, List.set_cons_succ, List.set_cons_zero]
      refine Rg.wpD_load 2 (v := ?_) (by simp only [List.getElem?_toArray, List.getElem?_cons_succ, List.getElem?_cons_zero]; rfl) (by kernel_rfl) (by kernel_rfl) (by intro _ _ _ h; exact h) HeldS (by rfl) (fun wz hz => ?_) ?_
      rotate_left
      · first | (go_simp; done) | (go_simp; with_reducible rfl)
      simp only [Act.put, List.setIfInBounds_toArray, List.set_cons_succ, List.set_cons_zero]
      refine Rg.wpD_do 1 (by kernel_rfl) (by simp only [List.getElem?_toArray, List.getElem?_cons_succ, List.getElem?_cons_zero]; rfl) (fun K hK => ?_)
      go_simp
      go_at_call 13
      refine Calls.mono hw1 ?_
      clear hw1
      rintro e W4 ⟨rfl, b4⟩
      refine hK _ _ (fun _ => (show ∀ X, _ → _ from HS) _ (below_next q0 b4)) ?_
      clear hK K HeldS
      have hw2 := weight_any o HOK W4
      unfold smV at hw2
      refine Rg.wpD_do 3 (by kernel_rfl) (by simp only [List.getElem?_toArray, List.getElem?_cons_succ, List.getElem?_cons_zero]; rfl) (fun K hK => ?_)
      go_simp
      go_at_call 13
      refine Calls.mono hw2 ?_
      clear hw2
      rintro e W5 ⟨rfl, b5⟩
      refine hK _ _ (fun _ => (show ∀ X, _ → _ from HS) _ (below_next (below_next q0 b4) b5)) ?_
      clear hK K
      refine Rg.wpD_pure 4 (v := ?_) (by simp only [List.getElem?_toArray, List.getElem?_cons_succ, List.getElem?_cons_zero]; rfl) (by kernel_rfl) (by kernel_rfl) (by intro _ _ _ h; exact h) (by rfl) (fun wz => ?_) ?_
      rotate_left
      · first | (go_simp; done) | (go_simp; with_reducible rfl)
      simp only [Act.put, List.setIfInBounds_toArray, List.set_cons_succ, List.set_cons_zero]
      refine Rg.wpD_done (by kernel_rfl) ?_
      have b35 := below_next (below_next q0 b4) b5
      have S5 := S3.below b35
      have k5 := kB.below b35 kB.lt
      clear S3 kB b35 b4 b5 q0 HS
      by_cases hh : weightV o < weightV n
      · have hhi : (weightV o : Int) < (weightV n : Int) := by omega
        have HO2 : Hid ((l.take (k + 1)).foldl (fun o s => heavier o (sumsV (greatV d) s)) Sm.zero = n) := by
          show _ = _
          rw [show _ = heavier o n from HO1]
          exact if_pos hh
        have S6 := S5.set n
        obtain ⟨⟨o0, o1, o2⟩, e0, e1, e2⟩ := blk3 S5.o
        obtain ⟨⟨y0, y1, y2⟩, _⟩ := blk3 k5
        unfold set3 at S6
        clear HO1 hh
        go_wp2
        exact ⟨⟨k + 1, n, by go_num, by omega, S6, HO2, hnok⟩, by simp [intOf]; omega⟩
      · have hhi : ¬ (weightV o : Int) < (weightV n : Int) := by omega
        have HO2 : Hid ((l.take (k + 1)).foldl (fun o s => heavier o (sumsV (greatV d) s)) Sm.zero = o) := by
          show _ = _
          rw [show _ = heavier o n from HO1]
          exact if_neg hh
        clear HO1 hh
        go_wp2
        exact ⟨⟨k + 1, o, by go_num, by omega, S5, HO2, HOK⟩, by simp [intOf]; omega⟩
    · have hki : ¬ (k : Int) < (l.length : Int) := by omega
      have hVo : o = V := by
        rw [← show _ = V from HV, ← show _ = o from HO, List.take_of_length_le (by omega)]
        rfl
      subst hVo
      obtain ⟨⟨z0, z1, z2⟩, e0, e1, e2⟩ := blk3 S.z
      obtain ⟨⟨o0, o1, o2⟩, _⟩ := blk3 S.o
      clear HO HV HP HG
      go_wp2
      refine bodyPost_ret (results_struct rfl _ _ w.heap.size _ rfl (load_sm (blk_set3 S.z _ _ _))) rfl ?_
      exact ⟨rfl, below_grown S.bl (grown_set3 wr w.heap.size _ _ _) S.bl.size (Nat.le_refl _)⟩
theorem great_all : ∀ d, d ≤ 8 → GreatOK d
  | 0, _ => great_zero
  | d + 1, h => great_any d (by omega) (sumsOf_any d (by omega) (great_all d (by omega)))

set_option maxRecDepth 100000 in
set_option maxHeartbeats 1000000 in
/-- WEIGH'S Of AT EVERY SELECTOR. -/
theorem of_any (v : Value) (s : Sel) (w : World) (hv : PartsR 8 w.heap.size w v s) :
    Calls Try.prog 7 #[.agg #[v]] w fun e w' => e = .returned (.int .i64 (ofV s)) ∧ Below w.heap.size w w' := by
  obtain ⟨q, cap, rfl⟩ := RowT.len hv
  unfold ofV
  have b0 : Below w.heap.size w (w.alloc (.cells #[.slice q s.length cap] 25)) := (Below.refl _ w).alloc (Nat.le_refl _) _
  have k0 : Blk (w.alloc (.cells #[.slice q s.length cap] 25)) w.heap.size 25 [.slice q s.length cap] := Blk.new w 25 _
  have h1 := sumsOf_any 8 (Nat.le_refl _) (great_all 8 (Nat.le_refl _)) (.slice q s.length cap) s _ (PartsR.next hv b0)
  have hok := sumsV_ok (greatV 8) s
  generalize sumsV (greatV 8) s = n at *
  have h2 := weight_any n hok
  unfold smV at h1 h2
  rw [show (8 - ((8 : Nat) : Int)) = 0 from rfl] at h1
  clear hv
  go_enter Try.func7, Try.ntmps7
  go_upto_region 1 with fail
  generalize w.alloc (.cells #[.slice q s.length cap] 25) = W at *
  obtain ⟨x0, _⟩ := blk1 k0
  go_wp2_with fail
  refine h1.mono ?_
  clear h1 x0
  rintro e W2 ⟨rfl, b2⟩
  have h3 := h2 W2
  clear h2
  go_wp2_with fail
  refine h3.mono ?_
  clear h3
  rintro e W3 ⟨rfl, b3⟩
  go_wp2
  go_ret
  exact ⟨rfl, below_next (below_next b0 b2) b3⟩

end Go.Proofs.Ytgjjedodbgimfaa.Wg
