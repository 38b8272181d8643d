/- The reader of selectors: pseudo-classes, over what lists within them are. -/
import Derived.Test.YtkhgmobependiaaDoorSlGc
namespace Go.Proofs.YtkhgmobependiaaDoor.Sl
open Go.Proofs.YtkhgmobependiaaDoor.Tre
open Go Go.RowKit Go.Shelf

/-- What a list is where d lists may still stand in it. -/
def ListOK (n₀ : Nat) (d : Nat) : Prop := ∀ (R : Nat) (v : Value) (ts : List Bt) (a : Nat) (w : World), Rd n₀ w R v ts a (8 - (d : Int)) → OpsAt n₀ w → Good ts →
  Calls Tryd.prog 9 #[.pointer (some ⟨R, 0, none⟩)] w fun e w' => ((∃ l b x, listV d (ts.drop a) = some (l, ts.drop b) ∧ e = .returned (.tuple #[x, .bool true]) ∧ SelsAt (d + 1) (fun b => w.heap.size ≤ b) w' x l ∧ Rd n₀ w' R v ts b (8 - (d : Int))) ∨ (listV d (ts.drop a) = none ∧ e = .returned (.tuple #[.slice none 0 0, .bool false]) ∧ ∃ b, Rd n₀ w' R v ts b (8 - (d : Int)))) ∧ But R w w'
theorem SelsAt.form {d : Nat} {P : Nat → Prop} {W : World} {v : Value} {l : List Sel} (h : SelsAt d P W v l) : ∃ p c, v = .slice p l.length c := by
  cases d with
  | zero => obtain ⟨rfl, rfl⟩ := h; exact ⟨none, 0, rfl⟩
  | succ d => obtain ⟨p, c, hv, _⟩ := FinRow.form h; exact ⟨p, c, hv⟩
theorem OpsAt.kept {n₀ R : Nat} {w W : World} (h : OpsAt n₀ w) (hb : But R w W) (hn : n₀ ≤ R) (hR : R < w.heap.size) : OpsAt n₀ W := h.below (hb.below (by omega) (fun b hb => by omega))
theorem listed_yes {L : Inner} {k : Int} {ts : List Bt} {a b : Nat} {l : List Sel} (h : L (ts.drop a) = some (l, ts.drop b)) (he : (at' ts b).kind = 17) : listedV L k (ts.drop a) = some (.mk k 0 0 l, ts.drop (b + 1)) := by
  have hl : b < ts.length := at_lt (by rw [he]; decide)
  unfold listedV
  rw [h]
  simp only [Option.bind_some]
  rw [at_cons hl]
  simp only [if_pos he]
theorem listed_no {L : Inner} {k : Int} {ts : List Bt} {a b : Nat} {l : List Sel} (h : L (ts.drop a) = some (l, ts.drop b)) (he : ¬ (at' ts b).kind = 17) : listedV L k (ts.drop a) = none := by
  unfold listedV
  rw [h]
  simp only [Option.bind_some]
  by_cases hl : b < ts.length
  · rw [at_cons hl]
    simp only [if_neg he]
  · rw [List.drop_eq_nil_of_le (by omega)]
theorem listed_none {L : Inner} {k : Int} {r : List Bt} (h : L r = none) : listedV L k r = none := by
  unfold listedV
  rw [h]
  rfl

theorem ps_store (W : World) {g : Nat} (a b c d : Value) : Fr (fun x => g < x) (fun x => g ≤ x) W (set4 W g a b c d) :=
  Fr.of_kept (keep := fun x => x ≠ g) (Kept.of_grown (grown_set4 W g a b c d) (fun k e h => by cases e; exact h rfl)) (fun x hx _ => ⟨by omega, by omega⟩)
/-- What pseudo and listed hand back. -/
def PsOut (n₀ R : Nat) (v : Value) (ts : List Bt) (d : Nat) (w : World) (V : Option (Ps × List Bt)) (e : Ending) (w' : World) : Prop :=
  ((∃ p b x, V = some (p, ts.drop b) ∧ e = .returned (.tuple #[psV p.kind p.a p.b x, .bool true]) ∧ SelsAt d (fun b => w.heap.size ≤ b) w' x p.list ∧ Rd n₀ w' R v ts b (8 - (d : Int))) ∨ (V = none ∧ (∃ k x y q n c, e = .returned (.tuple #[psV k x y (.slice q n c), .bool false])) ∧ ∃ b, Rd n₀ w' R v ts b (8 - (d : Int)))) ∧ But R w w'

set_option maxRecDepth 100000 in
set_option maxHeartbeats 2000000 in
theorem listed_any (n₀ R : Nat) (v : Value) (ts : List Bt) (a : Nat) (d : Nat) (kind : Int) (w : World) (hP : Rd n₀ w R v ts a (8 - (d : Int))) (hS : OpsAt n₀ w) (hG : Good ts) (hd : d ≤ 8) (hL : ∀ d', d = d' + 1 → ListOK n₀ d') :
    Calls Tryd.prog 61 #[.pointer (some ⟨R, 0, none⟩), .int .i64 kind] w (PsOut n₀ R v ts d w (listedV (innerV d) kind (ts.drop a))) := by
  have hR := hP.lt
  have hlo := hP.low
  obtain ⟨b0, kZ⟩ := ps_new w
  have hP0 := hP.below b0
  obtain ⟨⟨p0, p1, p2⟩, g0, g1, g2⟩ := blk3 hP0.blk
  unfold PsOut
  cases d with
  | zero =>
    have hv : listedV (innerV 0) kind (ts.drop a) = none := listed_none rfl
    rw [hv]
    unfold psV
    go_enter Tryd.func61, Tryd.ntmps61
    go_upto_region 1 with fail
    generalize w.alloc (.cells #[.int .i64 0, .int .i64 0, .int .i64 0, .slice none 0 0] 26) = W0 at *
    obtain ⟨⟨z0, z1, z2, z3⟩, f0, f1, f2, f3⟩ := blk4 kZ
    rw [show (8 : Int) - ((0 : Nat) : Int) = 8 from rfl] at p2
    clear hv
    go_wp2
    refine bodyPost_ret (results_struct_tmp rfl _ _ w.heap.size _ rfl (load_ps (blk_set4 kZ (.int .i64 0) (.int .i64 0) (.int .i64 0) (.slice none 0 0)))) rfl ?_
    exact ⟨.inr ⟨trivial, ⟨0, 0, 0, none, 0, 0, rfl⟩, a, hP0.other4 (by omega) (by omega) _ _ _ _⟩, (Kept.of_below b0).fresh4 (Nat.le_refl _) _ _ _ _⟩
  | succ d =>
    have hLd := hL d rfl
    have hy := fun b l h he => listed_yes (L := innerV (d + 1)) (k := kind) (ts := ts) (a := a) (b := b) (l := l) h he
    have hn := fun b l h he => listed_no (L := innerV (d + 1)) (k := kind) (ts := ts) (a := a) (b := b) (l := l) h he
    have hno := listed_none (L := innerV (d + 1)) (k := kind) (r := ts.drop a)
    obtain ⟨V, hV⟩ : ∃ V, listedV (innerV (d + 1)) kind (ts.drop a) = V := ⟨_, rfl⟩
    rw [hV] at hy hn hno ⊢
    have HY : Hid (∀ b l, listV d (ts.drop a) = some (l, ts.drop b) → (at' ts b).kind = 17 → V = some (.mk kind 0 0 l, ts.drop (b + 1))) := hy
    have HN : Hid (∀ b l, listV d (ts.drop a) = some (l, ts.drop b) → ¬ (at' ts b).kind = 17 → V = none) := hn
    have HO : Hid (listV d (ts.drop a) = none → V = none) := hno
    clear hy hn hno hV hL
    have hi1 : ((8 - ((d + 1 : Nat) : Int)) == 8) = false := by simp; omega
    have hw1 : IntKind.i64.wrap (8 - ((d + 1 : Nat) : Int) + 1) = 8 - (d : Int) := by rw [IntKind.wrap_i64]; omega
    have hw2 : IntKind.i64.wrap (8 - (d : Int) - 1) = 8 - ((d + 1 : Nat) : Int) := by rw [IntKind.wrap_i64]; omega
    generalize hD1 : (8 - ((d + 1 : Nat) : Int)) = D1 at *
    unfold psV
    go_enter Tryd.func61, Tryd.ntmps61
    go_upto_region 1 with fail
    generalize w.alloc (.cells #[.int .i64 0, .int .i64 0, .int .i64 0, .slice none 0 0] 26) = W0 at *
    have hP1 := hP0.depth (8 - (d : Int))
    have hb1 : But R w _ := (Kept.of_below b0).trans (But.set R W0 2 (.int .i64 (8 - (d : Int))))
    have kZ1 := (But.set R W0 2 (.int .i64 (8 - (d : Int)))).blk kZ (by omega)
    have hsz : w.heap.size < (W0.setCell ⟨R, 2, none⟩ (.int .i64 (8 - (d : Int)))).heap.size := kZ1.lt
    generalize hD2 : 8 - (d : Int) = D2 at *
    go_upto_region 4 with fail
    generalize W0.setCell ⟨R, 2, none⟩ (.int .i64 D2) = w1 at *
    clear p0 p1 p2 g0 g1 g2 kZ hP0 b0 hi1
    subst hD2
    have h1 := hLd R v ts a w1 hP1 (hS.kept hb1 hlo hR) hG
    generalize hD2 : 8 - (d : Int) = D2 at *
    clear hLd
    go_wp2_with fail
    refine h1.mono ?_
    clear h1
    rintro e w2 ⟨hcs, hb2⟩
    replace kZ1 := hb2.blk kZ1 (by omega)
    replace hb1 := hb1.trans hb2
    rcases hcs with ⟨l, b, x, hlv, rfl, hx, hP2⟩ | ⟨hlv, rfl, b, hP2⟩
    · replace hx : SelsAt (d + 1) (fun b => w.heap.size < b) w2 x l := SelsAt.fr _ hx ⟨Nat.le_refl _, fun c hc _ => ⟨rfl, Nat.lt_of_lt_of_le hsz hc⟩⟩
      obtain ⟨px, cx, rfl⟩ := hx.form
      obtain ⟨⟨p0, p1, p2⟩, g0, g1, g2⟩ := blk3 hP2.blk
      have hP3 := hP2.depth D1
      have hb3 := hb1.trans (But.set R w2 2 (.int .i64 D1))
      have kZ3 := (But.set R w2 2 (.int .i64 D1)).blk kZ1 (by omega)
      have hxs : Kept (fun b => b ≠ R) w2 _ := But.set R w2 2 (.int .i64 D1)
      replace hx : SelsAt (d + 1) (fun b => w.heap.size < b) _ _ l := SelsAt.fr _ hx (Fr.of_kept hxs (fun c hc _ => ⟨by omega, hc⟩))
      clear hxs hb1 kZ1
      go_upto_region 6 with fail
      generalize w2.setCell ⟨R, 2, none⟩ (.int .i64 D1) = w3 at *
      clear p0 p1 p2 g0 g1 g2 hP2
      have h4 := passes_any n₀ R v ts b D1 17 w3 hP3 (by decide)
      by_cases h17 : (at' ts b).kind = 17
      · have hv := (show ∀ b l, _ → _ from HY) b l hlv h17
        rw [decide_eq_true h17, if_pos h17] at h4
        clear HY HN HO h17 hlv
        go_wp2_with fail
        refine h4.mono ?_
        clear h4
        rintro e w4 ⟨rfl, hP4, hb4⟩
        have kZ4 := hb4.blk kZ3 (by omega)
        have hx4 := SelsAt.fr (d + 1) hx (Fr.of_kept (P' := fun b => w.heap.size < b) hb4 (fun c hc _ => ⟨by omega, hc⟩))
        obtain ⟨⟨z0, z1, z2, z3⟩, f0, f1, f2, f3⟩ := blk4 kZ4
        go_wp2
        refine bodyPost_ret (results_struct_tmp rfl _ _ w.heap.size _ rfl (load_ps (blk_set4 kZ4 (.int .i64 kind) (.int .i64 0) (.int .i64 0) (.slice px l.length cx)))) rfl ?_
        exact ⟨.inl ⟨_, b + 1, _, hv, rfl, SelsAt.fr _ hx4 (ps_store w4 _ _ _ _), hP4.other4 (by omega) (by omega) _ _ _ _⟩, (hb3.trans hb4).fresh4 (Nat.le_refl _) _ _ _ _⟩
      · have hv := (show ∀ b l, _ → _ from HN) b l hlv h17
        rw [decide_eq_false h17, if_neg h17] at h4
        clear HY HN HO h17 hlv
        go_wp2_with fail
        refine h4.mono ?_
        clear h4
        rintro e w4 ⟨rfl, hP4, hb4⟩
        have kZ4 := hb4.blk kZ3 (by omega)
        obtain ⟨⟨z0, z1, z2, z3⟩, f0, f1, f2, f3⟩ := blk4 kZ4
        go_wp2
        refine bodyPost_ret (results_struct_tmp rfl _ _ w.heap.size _ rfl (load_ps (blk_set4 kZ4 (.int .i64 kind) (.int .i64 0) (.int .i64 0) (.slice px l.length cx)))) rfl ?_
        exact ⟨.inr ⟨hv, ⟨kind, 0, 0, px, l.length, cx, rfl⟩, b, hP4.other4 (by omega) (by omega) _ _ _ _⟩, (hb3.trans hb4).fresh4 (Nat.le_refl _) _ _ _ _⟩
    · have hv := (show _ → _ from HO) hlv
      clear HY HN HO hlv
      obtain ⟨⟨p0, p1, p2⟩, g0, g1, g2⟩ := blk3 hP2.blk
      have hP3 := hP2.depth D1
      have hb3 := hb1.trans (But.set R w2 2 (.int .i64 D1))
      have kZ3 := (But.set R w2 2 (.int .i64 D1)).blk kZ1 (by omega)
      clear hb1 kZ1
      go_upto_region 6 with fail
      generalize w2.setCell ⟨R, 2, none⟩ (.int .i64 D1) = w3 at *
      clear p0 p1 p2 g0 g1 g2 hP2
      obtain ⟨⟨z0, z1, z2, z3⟩, f0, f1, f2, f3⟩ := blk4 kZ3
      go_wp2
      refine bodyPost_ret (results_struct_tmp rfl _ _ w.heap.size _ rfl (load_ps (blk_set4 kZ3 (.int .i64 kind) (.int .i64 0) (.int .i64 0) (.slice none 0 0)))) rfl ?_
      exact ⟨.inr ⟨hv, ⟨kind, 0, 0, none, 0, 0, rfl⟩, b, hP3.other4 (by omega) (by omega) _ _ _ _⟩, hb3.fresh4 (Nat.le_refl _) _ _ _ _⟩

/-! ### a pseudo-class, by its first token -/
theorem pseudo_none {L : Inner} {ts : List Bt} {a : Nat} (h1 : ¬ (at' ts a).kind = 1) (h2 : ¬ (at' ts a).kind = 20) : pseudoV L (ts.drop a) = none := by
  by_cases hl : a < ts.length
  · rw [at_cons hl]
    simp only [pseudoV, if_neg h1, if_neg h2]
  · rw [List.drop_eq_nil_of_le (by omega)]
    rfl
theorem pseudo_plain {L : Inner} {ts : List Bt} {a : Nat} (h1 : (at' ts a).kind = 1) : pseudoV L (ts.drop a) = (plainV (lowOf (at' ts a))).map fun k => (.mk k 0 0 [], ts.drop (a + 1)) := by
  rw [at_cons (at_lt (by rw [h1]; decide))]
  simp only [pseudoV, if_pos h1]
theorem pseudo_func {L : Inner} {ts : List Bt} {a : Nat} (h1 : (at' ts a).kind = 20) : pseudoV L (ts.drop a) = if lowOf (at' ts a) = nthT then (nthV (ts.drop (a + 1))).map fun x => (.mk 6 x.1 x.2.1 [], x.2.2) else if lowOf (at' ts a) = notT then listedV L 7 (ts.drop (a + 1)) else if lowOf (at' ts a) = isT then listedV L 8 (ts.drop (a + 1)) else none := by
  rw [at_cons (at_lt (by rw [h1]; decide))]
  simp only [pseudoV, if_neg (show ¬ (at' ts a).kind = 1 by omega), if_pos h1]

end Go.Proofs.YtkhgmobependiaaDoor.Sl

/- The reader of selectors: a pseudo-class. -/
namespace Go.Proofs.YtkhgmobependiaaDoor.Sl
open Go.Proofs.YtkhgmobependiaaDoor.Tre
open Go Go.RowKit Go.Shelf

set_option maxRecDepth 100000 in
set_option maxHeartbeats 4000000 in
theorem pseudo_any (n₀ R : Nat) (v : Value) (ts : List Bt) (a : Nat) (d : Nat) (w : World) (hP : Rd n₀ w R v ts a (8 - (d : Int))) (hS : OpsAt n₀ w) (hG : Good ts) (hd : d ≤ 8) (hL : ∀ d', d = d' + 1 → ListOK n₀ d') :
    Calls Tryd.prog 54 #[.pointer (some ⟨R, 0, none⟩)] w (PsOut n₀ R v ts d w (pseudoV (innerV d) (ts.drop a))) := by
  have hR := hP.lt
  have hlo := hP.low
  obtain ⟨b0, kZ⟩ := ps_new w
  have hP0 := hP.below b0
  have hg := hG.at a
  have hnone := pseudo_none (L := innerV d) (ts := ts) (a := a)
  have hplain := pseudo_plain (L := innerV d) (ts := ts) (a := a)
  have hfunc := pseudo_func (L := innerV d) (ts := ts) (a := a)
  have hpu := fun X hX => pull_any n₀ R v ts a (8 - (d : Int)) X hX
  have hli := fun k X hX hO => listed_any n₀ R v ts (a + 1) d k X hX hO hG hd hL
  have hnt := fun X hX => nth_any n₀ R v ts (a + 1) (8 - (d : Int)) X hX hG
  obtain ⟨V, hV⟩ : ∃ V, pseudoV (innerV d) (ts.drop a) = V := ⟨_, rfl⟩
  rw [hV] at hnone hplain hfunc ⊢
  generalize at' ts a = T at *
  have hc1 : ([1, 20] : List Int).contains T.kind = decide (T.kind = 1 ∨ T.kind = 20) := by
    by_cases h1 : T.kind = 1
    · simp [h1]
    · simp [h1]
  have HP : Hid (∀ X, Rd n₀ X R v ts a (8 - (d : Int)) → Calls Tryd.prog 25 #[.pointer (some ⟨R, 0, none⟩), .slice (some ⟨X.heap.size, 0, none⟩) 2 2] (X.alloc (.cells #[.int .i64 1, .int .i64 20] 3)) fun e w' => e = .returned (.tuple #[tkV (if decide (T.kind = 1 ∨ T.kind = 20) then T else zeroT), .bool (decide (T.kind = 1 ∨ T.kind = 20))]) ∧ Rd n₀ w' R v ts (if decide (T.kind = 1 ∨ T.kind = 20) then a + 1 else a) (8 - (d : Int)) ∧ But R (X.alloc (.cells #[.int .i64 1, .int .i64 20] 3)) w') := fun X hX => by
    have := hpu (X.alloc (.cells #[.int .i64 1, .int .i64 20] 3)) (hX.below ((Below.refl _ _).alloc (Nat.le_refl _) _)) (.slice (some ⟨X.heap.size, 0, none⟩) 2 2) [1, 20] (by rw [World.size_alloc]; exact ints_new X [1, 20] 3 (by simp)) (by simp) rfl
    rw [hc1] at this
    exact this
  have HLI : Hid (∀ k X, Rd n₀ X R v ts (a + 1) (8 - (d : Int)) → OpsAt n₀ X → Calls Tryd.prog 61 #[.pointer (some ⟨R, 0, none⟩), .int .i64 k] X (PsOut n₀ R v ts d X (listedV (innerV d) k (ts.drop (a + 1))))) := hli
  have HNT : Hid (∀ X, Rd n₀ X R v ts (a + 1) (8 - (d : Int)) → Calls Tryd.prog 60 #[.pointer (some ⟨R, 0, none⟩)] X fun e w' => ((∃ A B b, nthV (ts.drop (a + 1)) = some (A, B, ts.drop b) ∧ e = .returned (.tuple #[psV 6 A B (.slice none 0 0), .bool true]) ∧ Rd n₀ w' R v ts b (8 - (d : Int))) ∨ (nthV (ts.drop (a + 1)) = none ∧ (∃ k x y, e = .returned (.tuple #[psV k x y (.slice none 0 0), .bool false])) ∧ ∃ b, Rd n₀ w' R v ts b (8 - (d : Int)))) ∧ But R X w') := hnt
  clear hpu hli hnt hc1 hL
  obtain ⟨Q, hQ⟩ : ∃ Q, PsOut n₀ R v ts d w V = Q := ⟨_, rfl⟩
  rw [hQ]
  have HQ : Hid (PsOut n₀ R v ts d w V = Q) := hQ
  clear hQ hV
  go_enter Tryd.func54, Tryd.ntmps54
  go_upto_region 1 with fail
  generalize w.alloc (.cells #[.int .i64 0, .int .i64 0, .int .i64 0, .slice none 0 0] 26) = W0 at *
  have b1 : Below W0.heap.size W0 (W0.alloc (.cells #[.int .i64 1, .int .i64 20] 3)) := (Below.refl _ _).alloc (Nat.le_refl _) _
  have h1 := (show ∀ X, _ → _ from HP) W0 hP0
  clear HP
  have hb1 : But R w (W0.alloc (.cells #[.int .i64 1, .int .i64 20] 3)) := (Kept.of_below b0).trans (.of_below b1)
  have kZ1 := kZ.below b1 kZ.lt
  by_cases hk : T.kind = 1 ∨ T.kind = 20
  · rw [decide_eq_true hk] at h1
    simp only [if_true] at h1
    unfold tkV at h1
    have HK : Hid (T.kind = 1 ∨ T.kind = 20) := hk
    have HPL : Hid (T.kind = 1 → V = (plainV (lowOf T)).map fun k => (.mk k 0 0 [], ts.drop (a + 1))) := hplain
    have HFU : Hid (T.kind = 20 → V = if lowOf T = nthT then (nthV (ts.drop (a + 1))).map fun x => (.mk 6 x.1 x.2.1 [], x.2.2) else if lowOf T = notT then listedV (innerV d) 7 (ts.drop (a + 1)) else if lowOf T = isT then listedV (innerV d) 8 (ts.drop (a + 1)) else none) := hfunc
    clear hk hnone hplain hfunc
    go_wp2_with fail
    refine h1.mono ?_
    clear h1
    rintro e w1 ⟨rfl, hP1, hbk⟩
    replace kZ1 := hbk.blk kZ1 (by omega)
    replace hb1 := hb1.trans hbk
    clear kZ b0 b1 hbk hP0 hP
    have hw1 := kZ1.lt
    obtain ⟨bO, kO⟩ := tok_new w1 T
    have hP2 := hP1.below bO
    have hb2 : But R w _ := hb1.trans (.of_below bO)
    replace kZ1 := kZ1.below bO hw1
    have hR1 := hP1.lt
    go_upto_region 4 with fail
    generalize w1.alloc (.cells #[.int .i64 T.kind, .string T.text, .int .i64 T.n, .bool T.whole, .int .i64 T.c] 58) = w2 at *
    obtain ⟨⟨t0, t1, t2, t3, t4⟩, _⟩ := blk5 kO
    have hlow := Lw.lower_any T.text w2 (by unfold maxLen; omega)
    obtain ⟨z, hzz⟩ : ∃ z : ByteArray, (⟨(Lw.low T.text.data.toList).toArray⟩ : ByteArray) = z := ⟨_, rfl⟩
    have hz : z.data.toList = lowOf T := by rw [← hzz]; rfl
    rw [hzz] at hlow
    rw [← hz] at HPL HFU
    clear hzz hz
    go_wp2_with fail
    refine hlow.mono ?_
    clear hlow
    rintro e w3 ⟨rfl, b3⟩
    replace kZ1 := kZ1.below b3 kZ1.lt
    replace kO := kO.below b3 kO.lt
    have hP3 := hP2.below b3
    have hb3 : But R w w3 := hb2.trans (.of_below b3)
    have hO3 := hS.kept hb3 hlo hR
    clear hP2 hb2 b3 bO hb1 hP1
    obtain ⟨⟨t0, t1, t2, t3, t4⟩, _⟩ := blk5 kO
    have hw3 := kZ1.lt
    by_cases h1 : T.kind = 1
    · have hv := (show _ → _ from HPL) h1
      rw [h1] at t0
      clear HPL HFU HLI HNT HK h1
      have hpl := plain_any z w3
      generalize plainV z.data.toList = O at *
      unfold psV at hpl
      go_wp2_with fail
      refine hpl.mono ?_
      clear hpl
      rintro e w4 ⟨rfl, b4⟩
      have hP4 := hP3.below b4
      have hb4 : But R w w4 := hb3.trans (.of_below b4)
      replace kZ1 := kZ1.below b4 kZ1.lt
      obtain ⟨⟨z0, z1, z2, z3⟩, f0, f1, f2, f3⟩ := blk4 kZ1
      cases O with
      | some k =>
        simp only [Option.getD_some, Option.isSome_some]
        go_wp2
        refine bodyPost_ret (results_struct_tmp rfl _ _ w.heap.size _ rfl (load_ps (blk_set4 kZ1 (.int .i64 k) (.int .i64 0) (.int .i64 0) (.slice none 0 0)))) rfl ?_
        rw [← (show _ = _ from HQ)]
        exact ⟨.inl ⟨_, a + 1, _, hv, rfl, SelsAt.nil _ _ _, hP4.other4 (by omega) (by omega) _ _ _ _⟩, hb4.fresh4 (Nat.le_refl _) _ _ _ _⟩
      | none =>
        simp only [Option.getD_none, Option.isSome_none]
        go_wp2
        refine bodyPost_ret (results_struct_tmp rfl _ _ w.heap.size _ rfl (load_ps (blk_set4 kZ1 (.int .i64 0) (.int .i64 0) (.int .i64 0) (.slice none 0 0)))) rfl ?_
        rw [← (show _ = _ from HQ)]
        exact ⟨.inr ⟨hv, ⟨0, 0, 0, none, 0, 0, rfl⟩, a + 1, hP4.other4 (by omega) (by omega) _ _ _ _⟩, hb4.fresh4 (Nat.le_refl _) _ _ _ _⟩
    have h20 : T.kind = 20 := (show _ ∨ _ from HK).resolve_left h1
    have hv := (show _ → _ from HFU) h20
    rw [h20] at t0
    clear HPL HFU HK h1 h20
    by_cases g0 : z.data.toList = nthT
    · rw [if_pos g0] at hv
      obtain rfl := str_is g0
      unfold nthT
      clear g0 HLI
      have h4 := (show ∀ X, _ → _ from HNT) w3 hP3
      clear HNT
      unfold psV at h4
      go_wp2_with fail
      refine h4.mono ?_
      clear h4
      rintro e w4 ⟨hcs, hb4⟩
      replace kZ1 := hb4.blk kZ1 (by omega)
      replace hb4 := hb3.trans hb4
      obtain ⟨⟨z0, z1, z2, z3⟩, f0, f1, f2, f3⟩ := blk4 kZ1
      rcases hcs with ⟨A, B, b, hn, rfl, hP4⟩ | ⟨hn, ⟨k, x, y, rfl⟩, b, hP4⟩
      · rw [hn] at hv
        clear hn
        go_wp2
        refine bodyPost_ret (results_struct_tmp rfl _ _ w.heap.size _ rfl (load_ps (blk_set4 kZ1 (.int .i64 6) (.int .i64 A) (.int .i64 B) (.slice none 0 0)))) rfl ?_
        rw [← (show _ = _ from HQ)]
        exact ⟨.inl ⟨_, b, _, hv, rfl, SelsAt.nil _ _ _, hP4.other4 (by omega) (by omega) _ _ _ _⟩, hb4.fresh4 (Nat.le_refl _) _ _ _ _⟩
      · rw [hn] at hv
        clear hn
        go_wp2
        refine bodyPost_ret (results_struct_tmp rfl _ _ w.heap.size _ rfl (load_ps (blk_set4 kZ1 (.int .i64 k) (.int .i64 x) (.int .i64 y) (.slice none 0 0)))) rfl ?_
        rw [← (show _ = _ from HQ)]
        exact ⟨.inr ⟨hv, ⟨k, x, y, none, 0, 0, rfl⟩, b, hP4.other4 (by omega) (by omega) _ _ _ _⟩, hb4.fresh4 (Nat.le_refl _) _ _ _ _⟩
    rw [if_neg g0] at hv
    replace g0 := str_ne g0
    unfold nthT at g0
    clear HNT
    by_cases g1 : z.data.toList = notT
    · rw [if_pos g1] at hv
      obtain rfl := str_is g1
      unfold notT at g0 ⊢
      clear g1
      have h4 := (show ∀ k X, _ → _ → _ from HLI) 7 w3 hP3 hO3
      clear HLI
      unfold PsOut psV at h4
      go_wp2_with fail
      refine h4.mono ?_
      clear h4
      rintro e w4 ⟨hcs, hb4⟩
      replace kZ1 := hb4.blk kZ1 (by omega)
      replace hb4 := hb3.trans hb4
      obtain ⟨⟨z0, z1, z2, z3⟩, f0, f1, f2, f3⟩ := blk4 kZ1
      rcases hcs with ⟨p, b, x, hn, rfl, hx, hP4⟩ | ⟨hn, ⟨k, x, y, q, n, c, rfl⟩, b, hP4⟩
      · rw [hn] at hv
        replace hx : SelsAt d (fun b => w.heap.size < b) w4 x p.list := SelsAt.fr _ hx ⟨Nat.le_refl _, fun c hc _ => ⟨rfl, by omega⟩⟩
        obtain ⟨px, cx, rfl⟩ := hx.form
        clear hn
        go_wp2
        refine bodyPost_ret (results_struct_tmp rfl _ _ w.heap.size _ rfl (load_ps (blk_set4 kZ1 (.int .i64 p.kind) (.int .i64 p.a) (.int .i64 p.b) (.slice px p.list.length cx)))) rfl ?_
        rw [← (show _ = _ from HQ)]
        exact ⟨.inl ⟨p, b, _, hv, rfl, SelsAt.fr _ hx (ps_store w4 _ _ _ _), hP4.other4 (by omega) (by omega) _ _ _ _⟩, hb4.fresh4 (Nat.le_refl _) _ _ _ _⟩
      · rw [hn] at hv
        clear hn
        go_wp2
        refine bodyPost_ret (results_struct_tmp rfl _ _ w.heap.size _ rfl (load_ps (blk_set4 kZ1 (.int .i64 k) (.int .i64 x) (.int .i64 y) (.slice q n c)))) rfl ?_
        rw [← (show _ = _ from HQ)]
        exact ⟨.inr ⟨hv, ⟨k, x, y, q, n, c, rfl⟩, b, hP4.other4 (by omega) (by omega) _ _ _ _⟩, hb4.fresh4 (Nat.le_refl _) _ _ _ _⟩
    rw [if_neg g1] at hv
    replace g1 := str_ne g1
    unfold notT at g1
    by_cases g2 : z.data.toList = isT
    · rw [if_pos g2] at hv
      obtain rfl := str_is g2
      unfold isT at g0 g1 ⊢
      clear g2
      have h4 := (show ∀ k X, _ → _ → _ from HLI) 8 w3 hP3 hO3
      clear HLI
      unfold PsOut psV at h4
      go_wp2_with fail
      refine h4.mono ?_
      clear h4
      rintro e w4 ⟨hcs, hb4⟩
      replace kZ1 := hb4.blk kZ1 (by omega)
      replace hb4 := hb3.trans hb4
      obtain ⟨⟨z0, z1, z2, z3⟩, f0, f1, f2, f3⟩ := blk4 kZ1
      rcases hcs with ⟨p, b, x, hn, rfl, hx, hP4⟩ | ⟨hn, ⟨k, x, y, q, n, c, rfl⟩, b, hP4⟩
      · rw [hn] at hv
        replace hx : SelsAt d (fun b => w.heap.size < b) w4 x p.list := SelsAt.fr _ hx ⟨Nat.le_refl _, fun c hc _ => ⟨rfl, by omega⟩⟩
        obtain ⟨px, cx, rfl⟩ := hx.form
        clear hn
        go_wp2
        refine bodyPost_ret (results_struct_tmp rfl _ _ w.heap.size _ rfl (load_ps (blk_set4 kZ1 (.int .i64 p.kind) (.int .i64 p.a) (.int .i64 p.b) (.slice px p.list.length cx)))) rfl ?_
        rw [← (show _ = _ from HQ)]
        exact ⟨.inl ⟨p, b, _, hv, rfl, SelsAt.fr _ hx (ps_store w4 _ _ _ _), hP4.other4 (by omega) (by omega) _ _ _ _⟩, hb4.fresh4 (Nat.le_refl _) _ _ _ _⟩
      · rw [hn] at hv
        clear hn
        go_wp2
        refine bodyPost_ret (results_struct_tmp rfl _ _ w.heap.size _ rfl (load_ps (blk_set4 kZ1 (.int .i64 k) (.int .i64 x) (.int .i64 y) (.slice q n c)))) rfl ?_
        rw [← (show _ = _ from HQ)]
        exact ⟨.inr ⟨hv, ⟨k, x, y, q, n, c, rfl⟩, b, hP4.other4 (by omega) (by omega) _ _ _ _⟩, hb4.fresh4 (Nat.le_refl _) _ _ _ _⟩
    rw [if_neg g2] at hv
    replace g2 := str_ne g2
    unfold isT at g2
    clear HLI
    obtain ⟨⟨z0, z1, z2, z3⟩, f0, f1, f2, f3⟩ := blk4 kZ1
    go_wp2
    refine bodyPost_ret (results_struct_tmp rfl _ _ w.heap.size _ rfl (load_ps (blk_set4 kZ1 (.int .i64 0) (.int .i64 0) (.int .i64 0) (.slice none 0 0)))) rfl ?_
    rw [← (show _ = _ from HQ)]
    exact ⟨.inr ⟨hv, ⟨0, 0, 0, none, 0, 0, rfl⟩, a + 1, hP3.other4 (by omega) (by omega) _ _ _ _⟩, hb3.fresh4 (Nat.le_refl _) _ _ _ _⟩
  · rw [decide_eq_false hk] at h1
    simp only [Bool.false_eq_true, if_false] at h1
    unfold tkV zeroT at h1
    have hv := hnone (fun h => hk (.inl h)) (fun h => hk (.inr h))
    clear hk hnone hplain hfunc HLI HNT
    go_wp2_with fail
    refine h1.mono ?_
    clear h1
    rintro e w1 ⟨rfl, hP1, hbk⟩
    replace kZ1 := hbk.blk kZ1 (by omega)
    replace hb1 := hb1.trans hbk
    clear kZ b0 b1 hbk hP0 hP
    have hw1 := kZ1.lt
    obtain ⟨bO, kO⟩ := tok_new w1 zeroT
    unfold zeroT at bO
    replace kZ1 := kZ1.below bO hw1
    have hP2 := hP1.below bO
    have hb2 : But R w _ := hb1.trans (.of_below bO)
    have hR1 := hP1.lt
    clear kO
    go_upto_region 2 with fail
    generalize w1.alloc (.cells #[.int .i64 0, .string ⟨#[]⟩, .int .i64 0, .bool false, .int .i64 0] 58) = w2 at *
    obtain ⟨⟨z0, z1, z2, z3⟩, f0, f1, f2, f3⟩ := blk4 kZ1
    go_wp2
    refine bodyPost_ret (results_struct_tmp rfl _ _ w.heap.size _ rfl (load_ps (blk_set4 kZ1 (.int .i64 0) (.int .i64 0) (.int .i64 0) (.slice none 0 0)))) rfl ?_
    rw [← (show _ = _ from HQ)]
    exact ⟨.inr ⟨hv, ⟨0, 0, 0, none, 0, 0, rfl⟩, a, hP2.other4 (by omega) (by omega) _ _ _ _⟩, hb2.fresh4 (Nat.le_refl _) _ _ _ _⟩

end Go.Proofs.YtkhgmobependiaaDoor.Sl
