/- The reader of selectors: a pseudo-class. -/
import Derived.Test.YtlcedbjlcjnkfabDoorSlPs
namespace Go.Proofs.YtlcedbjlcjnkfabDoor.Sl
open Go Go.RowKit Go.Shelf

set_option maxRecDepth 100000 in
set_option maxHeartbeats 4000000 in
theorem pseudo_any (n₀ R : Nat) (v : Value) (ts : List Bt) (a : Nat) (d : Nat) (w : World) (hP : Rd n₀ w R v ts a (8 - (d : Int))) (hS : OpsAt n₀ w) (hG : Good ts) (hd : d ≤ 8) (hL : ∀ d', d = d' + 1 → ListOK n₀ d') :
    Calls Tryd.prog 52 #[.pointer (some ⟨R, 0, none⟩)] w (PsOut n₀ R v ts d w (pseudoV (innerV d) (ts.drop a))) := by
  have hR := hP.lt
  have hlo := hP.low
  obtain ⟨b0, kZ⟩ := ps_new w
  have hP0 := hP.below b0
  have hg := hG.at a
  have hnone := pseudo_none (L := innerV d) (ts := ts) (a := a)
  have hplain := pseudo_plain (L := innerV d) (ts := ts) (a := a)
  have hfunc := pseudo_func (L := innerV d) (ts := ts) (a := a)
  have hpu := fun X hX => pull_any n₀ R v ts a (8 - (d : Int)) X hX
  have hli := fun k X hX hO => listed_any n₀ R v ts (a + 1) d k X hX hO hG hd hL
  have hnt := fun X hX => nth_any n₀ R v ts (a + 1) (8 - (d : Int)) X hX hG
  obtain ⟨V, hV⟩ : ∃ V, pseudoV (innerV d) (ts.drop a) = V := ⟨_, rfl⟩
  rw [hV] at hnone hplain hfunc ⊢
  generalize at' ts a = T at *
  have hc1 : ([1, 20] : List Int).contains T.kind = decide (T.kind = 1 ∨ T.kind = 20) := by
    by_cases h1 : T.kind = 1
    · simp [h1]
    · simp [h1]
  have HP : Hid (∀ X, Rd n₀ X R v ts a (8 - (d : Int)) → Calls Tryd.prog 23 #[.pointer (some ⟨R, 0, none⟩), .slice (some ⟨X.heap.size, 0, none⟩) 2 2] (X.alloc (.cells #[.int .i64 1, .int .i64 20] 3)) fun e w' => e = .returned (.tuple #[tkV (if decide (T.kind = 1 ∨ T.kind = 20) then T else zeroT), .bool (decide (T.kind = 1 ∨ T.kind = 20))]) ∧ Rd n₀ w' R v ts (if decide (T.kind = 1 ∨ T.kind = 20) then a + 1 else a) (8 - (d : Int)) ∧ But R (X.alloc (.cells #[.int .i64 1, .int .i64 20] 3)) w') := fun X hX => by
    have := hpu (X.alloc (.cells #[.int .i64 1, .int .i64 20] 3)) (hX.below ((Below.refl _ _).alloc (Nat.le_refl _) _)) (.slice (some ⟨X.heap.size, 0, none⟩) 2 2) [1, 20] (by rw [World.size_alloc]; exact ints_new X [1, 20] 3 (by simp)) (by simp) rfl
    rw [hc1] at this
    exact this
  have HLI : Hid (∀ k X, Rd n₀ X R v ts (a + 1) (8 - (d : Int)) → OpsAt n₀ X → Calls Tryd.prog 59 #[.pointer (some ⟨R, 0, none⟩), .int .i64 k] X (PsOut n₀ R v ts d X (listedV (innerV d) k (ts.drop (a + 1))))) := hli
  have HNT : Hid (∀ X, Rd n₀ X R v ts (a + 1) (8 - (d : Int)) → Calls Tryd.prog 58 #[.pointer (some ⟨R, 0, none⟩)] X fun e w' => ((∃ A B b, nthV (ts.drop (a + 1)) = some (A, B, ts.drop b) ∧ e = .returned (.tuple #[psV 6 A B (.slice none 0 0), .bool true]) ∧ Rd n₀ w' R v ts b (8 - (d : Int))) ∨ (nthV (ts.drop (a + 1)) = none ∧ (∃ k x y, e = .returned (.tuple #[psV k x y (.slice none 0 0), .bool false])) ∧ ∃ b, Rd n₀ w' R v ts b (8 - (d : Int)))) ∧ But R X w') := hnt
  clear hpu hli hnt hc1 hL
  obtain ⟨Q, hQ⟩ : ∃ Q, PsOut n₀ R v ts d w V = Q := ⟨_, rfl⟩
  rw [hQ]
  have HQ : Hid (PsOut n₀ R v ts d w V = Q) := hQ
  clear hQ hV
  go_enter Tryd.func52, Tryd.ntmps52
  go_upto_region 1 with fail
  generalize w.alloc (.cells #[.int .i64 0, .int .i64 0, .int .i64 0, .slice none 0 0] 43) = W0 at *
  have b1 : Below W0.heap.size W0 (W0.alloc (.cells #[.int .i64 1, .int .i64 20] 3)) := (Below.refl _ _).alloc (Nat.le_refl _) _
  have h1 := (show ∀ X, _ → _ from HP) W0 hP0
  clear HP
  have hb1 : But R w (W0.alloc (.cells #[.int .i64 1, .int .i64 20] 3)) := (Kept.of_below b0).trans (.of_below b1)
  have kZ1 := kZ.below b1 kZ.lt
  by_cases hk : T.kind = 1 ∨ T.kind = 20
  · rw [decide_eq_true hk] at h1
    simp only [if_true] at h1
    unfold tkV at h1
    have HK : Hid (T.kind = 1 ∨ T.kind = 20) := hk
    have HPL : Hid (T.kind = 1 → V = (plainV (lowOf T)).map fun k => (.mk k 0 0 [], ts.drop (a + 1))) := hplain
    have HFU : Hid (T.kind = 20 → V = if lowOf T = nthT then (nthV (ts.drop (a + 1))).map fun x => (.mk 6 x.1 x.2.1 [], x.2.2) else if lowOf T = notT then listedV (innerV d) 7 (ts.drop (a + 1)) else if lowOf T = isT then listedV (innerV d) 8 (ts.drop (a + 1)) else none) := hfunc
    clear hk hnone hplain hfunc
    go_wp2_with fail
    refine h1.mono ?_
    clear h1
    rintro e w1 ⟨rfl, hP1, hbk⟩
    replace kZ1 := hbk.blk kZ1 (by omega)
    replace hb1 := hb1.trans hbk
    clear kZ b0 b1 hbk hP0 hP
    have hw1 := kZ1.lt
    obtain ⟨bO, kO⟩ := tok_new w1 T
    have hP2 := hP1.below bO
    have hb2 : But R w _ := hb1.trans (.of_below bO)
    replace kZ1 := kZ1.below bO hw1
    have hR1 := hP1.lt
    go_upto_region 4 with fail
    generalize w1.alloc (.cells #[.int .i64 T.kind, .string T.text, .int .i64 T.n, .bool T.whole, .int .i64 T.c] 60) = w2 at *
    obtain ⟨⟨t0, t1, t2, t3, t4⟩, _⟩ := blk5 kO
    have hlow := Lw.lower_any T.text w2 (by unfold maxLen; omega)
    obtain ⟨z, hzz⟩ : ∃ z : ByteArray, (⟨(Lw.low T.text.data.toList).toArray⟩ : ByteArray) = z := ⟨_, rfl⟩
    have hz : z.data.toList = lowOf T := by rw [← hzz]; rfl
    rw [hzz] at hlow
    rw [← hz] at HPL HFU
    clear hzz hz
    go_wp2_with fail
    refine hlow.mono ?_
    clear hlow
    rintro e w3 ⟨rfl, b3⟩
    replace kZ1 := kZ1.below b3 kZ1.lt
    replace kO := kO.below b3 kO.lt
    have hP3 := hP2.below b3
    have hb3 : But R w w3 := hb2.trans (.of_below b3)
    have hO3 := hS.kept hb3 hlo hR
    clear hP2 hb2 b3 bO hb1 hP1
    obtain ⟨⟨t0, t1, t2, t3, t4⟩, _⟩ := blk5 kO
    have hw3 := kZ1.lt
    by_cases h1 : T.kind = 1
    · have hv := (show _ → _ from HPL) h1
      rw [h1] at t0
      clear HPL HFU HLI HNT HK h1
      have hpl := plain_any z w3
      generalize plainV z.data.toList = O at *
      unfold psV at hpl
      go_wp2_with fail
      refine hpl.mono ?_
      clear hpl
      rintro e w4 ⟨rfl, b4⟩
      have hP4 := hP3.below b4
      have hb4 : But R w w4 := hb3.trans (.of_below b4)
      replace kZ1 := kZ1.below b4 kZ1.lt
      obtain ⟨⟨z0, z1, z2, z3⟩, f0, f1, f2, f3⟩ := blk4 kZ1
      cases O with
      | some k =>
        simp only [Option.getD_some, Option.isSome_some]
        go_wp2
        refine bodyPost_ret (results_struct_tmp rfl _ _ w.heap.size _ rfl (load_ps (blk_set4 kZ1 (.int .i64 k) (.int .i64 0) (.int .i64 0) (.slice none 0 0)))) rfl ?_
        rw [← (show _ = _ from HQ)]
        exact ⟨.inl ⟨_, a + 1, _, hv, rfl, SelsAt.nil _ _ _, hP4.other4 (by omega) (by omega) _ _ _ _⟩, hb4.fresh4 (Nat.le_refl _) _ _ _ _⟩
      | none =>
        simp only [Option.getD_none, Option.isSome_none]
        go_wp2
        refine bodyPost_ret (results_struct_tmp rfl _ _ w.heap.size _ rfl (load_ps (blk_set4 kZ1 (.int .i64 0) (.int .i64 0) (.int .i64 0) (.slice none 0 0)))) rfl ?_
        rw [← (show _ = _ from HQ)]
        exact ⟨.inr ⟨hv, ⟨0, 0, 0, none, 0, 0, rfl⟩, a + 1, hP4.other4 (by omega) (by omega) _ _ _ _⟩, hb4.fresh4 (Nat.le_refl _) _ _ _ _⟩
    have h20 : T.kind = 20 := (show _ ∨ _ from HK).resolve_left h1
    have hv := (show _ → _ from HFU) h20
    rw [h20] at t0
    clear HPL HFU HK h1 h20
    by_cases g0 : z.data.toList = nthT
    · rw [if_pos g0] at hv
      obtain rfl := str_is g0
      unfold nthT
      clear g0 HLI
      have h4 := (show ∀ X, _ → _ from HNT) w3 hP3
      clear HNT
      unfold psV at h4
      go_wp2_with fail
      refine h4.mono ?_
      clear h4
      rintro e w4 ⟨hcs, hb4⟩
      replace kZ1 := hb4.blk kZ1 (by omega)
      replace hb4 := hb3.trans hb4
      obtain ⟨⟨z0, z1, z2, z3⟩, f0, f1, f2, f3⟩ := blk4 kZ1
      rcases hcs with ⟨A, B, b, hn, rfl, hP4⟩ | ⟨hn, ⟨k, x, y, rfl⟩, b, hP4⟩
      · rw [hn] at hv
        clear hn
        go_wp2
        refine bodyPost_ret (results_struct_tmp rfl _ _ w.heap.size _ rfl (load_ps (blk_set4 kZ1 (.int .i64 6) (.int .i64 A) (.int .i64 B) (.slice none 0 0)))) rfl ?_
        rw [← (show _ = _ from HQ)]
        exact ⟨.inl ⟨_, b, _, hv, rfl, SelsAt.nil _ _ _, hP4.other4 (by omega) (by omega) _ _ _ _⟩, hb4.fresh4 (Nat.le_refl _) _ _ _ _⟩
      · rw [hn] at hv
        clear hn
        go_wp2
        refine bodyPost_ret (results_struct_tmp rfl _ _ w.heap.size _ rfl (load_ps (blk_set4 kZ1 (.int .i64 k) (.int .i64 x) (.int .i64 y) (.slice none 0 0)))) rfl ?_
        rw [← (show _ = _ from HQ)]
        exact ⟨.inr ⟨hv, ⟨k, x, y, none, 0, 0, rfl⟩, b, hP4.other4 (by omega) (by omega) _ _ _ _⟩, hb4.fresh4 (Nat.le_refl _) _ _ _ _⟩
    rw [if_neg g0] at hv
    replace g0 := str_ne g0
    unfold nthT at g0
    clear HNT
    by_cases g1 : z.data.toList = notT
    · rw [if_pos g1] at hv
      obtain rfl := str_is g1
      unfold notT at g0 ⊢
      clear g1
      have h4 := (show ∀ k X, _ → _ → _ from HLI) 7 w3 hP3 hO3
      clear HLI
      unfold PsOut psV at h4
      go_wp2_with fail
      refine h4.mono ?_
      clear h4
      rintro e w4 ⟨hcs, hb4⟩
      replace kZ1 := hb4.blk kZ1 (by omega)
      replace hb4 := hb3.trans hb4
      obtain ⟨⟨z0, z1, z2, z3⟩, f0, f1, f2, f3⟩ := blk4 kZ1
      rcases hcs with ⟨p, b, x, hn, rfl, hx, hP4⟩ | ⟨hn, ⟨k, x, y, q, n, c, rfl⟩, b, hP4⟩
      · rw [hn] at hv
        replace hx : SelsAt d (fun b => w.heap.size < b) w4 x p.list := SelsAt.fr _ hx ⟨Nat.le_refl _, fun c hc _ => ⟨rfl, by omega⟩⟩
        obtain ⟨px, cx, rfl⟩ := hx.form
        clear hn
        go_wp2
        refine bodyPost_ret (results_struct_tmp rfl _ _ w.heap.size _ rfl (load_ps (blk_set4 kZ1 (.int .i64 p.kind) (.int .i64 p.a) (.int .i64 p.b) (.slice px p.list.length cx)))) rfl ?_
        rw [← (show _ = _ from HQ)]
        exact ⟨.inl ⟨p, b, _, hv, rfl, SelsAt.fr _ hx (ps_store w4 _ _ _ _), hP4.other4 (by omega) (by omega) _ _ _ _⟩, hb4.fresh4 (Nat.le_refl _) _ _ _ _⟩
      · rw [hn] at hv
        clear hn
        go_wp2
        refine bodyPost_ret (results_struct_tmp rfl _ _ w.heap.size _ rfl (load_ps (blk_set4 kZ1 (.int .i64 k) (.int .i64 x) (.int .i64 y) (.slice q n c)))) rfl ?_
        rw [← (show _ = _ from HQ)]
        exact ⟨.inr ⟨hv, ⟨k, x, y, q, n, c, rfl⟩, b, hP4.other4 (by omega) (by omega) _ _ _ _⟩, hb4.fresh4 (Nat.le_refl _) _ _ _ _⟩
    rw [if_neg g1] at hv
    replace g1 := str_ne g1
    unfold notT at g1
    by_cases g2 : z.data.toList = isT
    · rw [if_pos g2] at hv
      obtain rfl := str_is g2
      unfold isT at g0 g1 ⊢
      clear g2
      have h4 := (show ∀ k X, _ → _ → _ from HLI) 8 w3 hP3 hO3
      clear HLI
      unfold PsOut psV at h4
      go_wp2_with fail
      refine h4.mono ?_
      clear h4
      rintro e w4 ⟨hcs, hb4⟩
      replace kZ1 := hb4.blk kZ1 (by omega)
      replace hb4 := hb3.trans hb4
      obtain ⟨⟨z0, z1, z2, z3⟩, f0, f1, f2, f3⟩ := blk4 kZ1
      rcases hcs with ⟨p, b, x, hn, rfl, hx, hP4⟩ | ⟨hn, ⟨k, x, y, q, n, c, rfl⟩, b, hP4⟩
      · rw [hn] at hv
        replace hx : SelsAt d (fun b => w.heap.size < b) w4 x p.list := SelsAt.fr _ hx ⟨Nat.le_refl _, fun c hc _ => ⟨rfl, by omega⟩⟩
        obtain ⟨px, cx, rfl⟩ := hx.form
        clear hn
        go_wp2
        refine bodyPost_ret (results_struct_tmp rfl _ _ w.heap.size _ rfl (load_ps (blk_set4 kZ1 (.int .i64 p.kind) (.int .i64 p.a) (.int .i64 p.b) (.slice px p.list.length cx)))) rfl ?_
        rw [← (show _ = _ from HQ)]
        exact ⟨.inl ⟨p, b, _, hv, rfl, SelsAt.fr _ hx (ps_store w4 _ _ _ _), hP4.other4 (by omega) (by omega) _ _ _ _⟩, hb4.fresh4 (Nat.le_refl _) _ _ _ _⟩
      · rw [hn] at hv
        clear hn
        go_wp2
        refine bodyPost_ret (results_struct_tmp rfl _ _ w.heap.size _ rfl (load_ps (blk_set4 kZ1 (.int .i64 k) (.int .i64 x) (.int .i64 y) (.slice q n c)))) rfl ?_
        rw [← (show _ = _ from HQ)]
        exact ⟨.inr ⟨hv, ⟨k, x, y, q, n, c, rfl⟩, b, hP4.other4 (by omega) (by omega) _ _ _ _⟩, hb4.fresh4 (Nat.le_refl _) _ _ _ _⟩
    rw [if_neg g2] at hv
    replace g2 := str_ne g2
    unfold isT at g2
    clear HLI
    obtain ⟨⟨z0, z1, z2, z3⟩, f0, f1, f2, f3⟩ := blk4 kZ1
    go_wp2
    refine bodyPost_ret (results_struct_tmp rfl _ _ w.heap.size _ rfl (load_ps (blk_set4 kZ1 (.int .i64 0) (.int .i64 0) (.int .i64 0) (.slice none 0 0)))) rfl ?_
    rw [← (show _ = _ from HQ)]
    exact ⟨.inr ⟨hv, ⟨0, 0, 0, none, 0, 0, rfl⟩, a + 1, hP3.other4 (by omega) (by omega) _ _ _ _⟩, hb3.fresh4 (Nat.le_refl _) _ _ _ _⟩
  · rw [decide_eq_false hk] at h1
    simp only [Bool.false_eq_true, if_false] at h1
    unfold tkV zeroT at h1
    have hv := hnone (fun h => hk (.inl h)) (fun h => hk (.inr h))
    clear hk hnone hplain hfunc HLI HNT
    go_wp2_with fail
    refine h1.mono ?_
    clear h1
    rintro e w1 ⟨rfl, hP1, hbk⟩
    replace kZ1 := hbk.blk kZ1 (by omega)
    replace hb1 := hb1.trans hbk
    clear kZ b0 b1 hbk hP0 hP
    have hw1 := kZ1.lt
    obtain ⟨bO, kO⟩ := tok_new w1 zeroT
    unfold zeroT at bO
    replace kZ1 := kZ1.below bO hw1
    have hP2 := hP1.below bO
    have hb2 : But R w _ := hb1.trans (.of_below bO)
    have hR1 := hP1.lt
    clear kO
    go_upto_region 2 with fail
    generalize w1.alloc (.cells #[.int .i64 0, .string ⟨#[]⟩, .int .i64 0, .bool false, .int .i64 0] 60) = w2 at *
    obtain ⟨⟨z0, z1, z2, z3⟩, f0, f1, f2, f3⟩ := blk4 kZ1
    go_wp2
    refine bodyPost_ret (results_struct_tmp rfl _ _ w.heap.size _ rfl (load_ps (blk_set4 kZ1 (.int .i64 0) (.int .i64 0) (.int .i64 0) (.slice none 0 0)))) rfl ?_
    rw [← (show _ = _ from HQ)]
    exact ⟨.inr ⟨hv, ⟨0, 0, 0, none, 0, 0, rfl⟩, a, hP2.other4 (by omega) (by omega) _ _ _ _⟩, hb2.fresh4 (Nat.le_refl _) _ _ _ _⟩

end Go.Proofs.YtlcedbjlcjnkfabDoor.Sl
