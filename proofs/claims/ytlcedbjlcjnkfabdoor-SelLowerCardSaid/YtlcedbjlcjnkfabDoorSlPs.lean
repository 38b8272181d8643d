/- The reader of selectors: pseudo-classes, over what lists within them are. -/
import Derived.Test.YtlcedbjlcjnkfabDoorSlNth
import Derived.Test.YtlcedbjlcjnkfabDoorSlAttr
namespace Go.Proofs.YtlcedbjlcjnkfabDoor.Sl
open Go Go.RowKit Go.Shelf

/-- What a list is where d lists may still stand in it. -/
def ListOK (n₀ : Nat) (d : Nat) : Prop := ∀ (R : Nat) (v : Value) (ts : List Bt) (a : Nat) (w : World), Rd n₀ w R v ts a (8 - (d : Int)) → OpsAt n₀ w → Good ts →
  Calls Tryd.prog 7 #[.pointer (some ⟨R, 0, none⟩)] w fun e w' => ((∃ l b x, listV d (ts.drop a) = some (l, ts.drop b) ∧ e = .returned (.tuple #[x, .bool true]) ∧ SelsAt (d + 1) (fun b => w.heap.size ≤ b) w' x l ∧ Rd n₀ w' R v ts b (8 - (d : Int))) ∨ (listV d (ts.drop a) = none ∧ e = .returned (.tuple #[.slice none 0 0, .bool false]) ∧ ∃ b, Rd n₀ w' R v ts b (8 - (d : Int)))) ∧ But R w w'
theorem SelsAt.form {d : Nat} {P : Nat → Prop} {W : World} {v : Value} {l : List Sel} (h : SelsAt d P W v l) : ∃ p c, v = .slice p l.length c := by
  cases d with
  | zero => obtain ⟨rfl, rfl⟩ := h; exact ⟨none, 0, rfl⟩
  | succ d => obtain ⟨p, c, hv, _⟩ := FinRow.form h; exact ⟨p, c, hv⟩
theorem OpsAt.kept {n₀ R : Nat} {w W : World} (h : OpsAt n₀ w) (hb : But R w W) (hn : n₀ ≤ R) (hR : R < w.heap.size) : OpsAt n₀ W := h.below (hb.below (by omega) (fun b hb => by omega))
theorem listed_yes {L : Inner} {k : Int} {ts : List Bt} {a b : Nat} {l : List Sel} (h : L (ts.drop a) = some (l, ts.drop b)) (he : (at' ts b).kind = 17) : listedV L k (ts.drop a) = some (.mk k 0 0 l, ts.drop (b + 1)) := by
  have hl : b < ts.length := at_lt (by rw [he]; decide)
  unfold listedV
  rw [h]
  simp only [Option.bind_some]
  rw [at_cons hl]
  simp only [if_pos he]
theorem listed_no {L : Inner} {k : Int} {ts : List Bt} {a b : Nat} {l : List Sel} (h : L (ts.drop a) = some (l, ts.drop b)) (he : ¬ (at' ts b).kind = 17) : listedV L k (ts.drop a) = none := by
  unfold listedV
  rw [h]
  simp only [Option.bind_some]
  by_cases hl : b < ts.length
  · rw [at_cons hl]
    simp only [if_neg he]
  · rw [List.drop_eq_nil_of_le (by omega)]
theorem listed_none {L : Inner} {k : Int} {r : List Bt} (h : L r = none) : listedV L k r = none := by
  unfold listedV
  rw [h]
  rfl

theorem ps_store (W : World) {g : Nat} (a b c d : Value) : Fr (fun x => g < x) (fun x => g ≤ x) W (set4 W g a b c d) :=
  Fr.of_kept (keep := fun x => x ≠ g) (Kept.of_grown (grown_set4 W g a b c d) (fun k e h => by cases e; exact h rfl)) (fun x hx _ => ⟨by omega, by omega⟩)
/-- What pseudo and listed hand back. -/
def PsOut (n₀ R : Nat) (v : Value) (ts : List Bt) (d : Nat) (w : World) (V : Option (Ps × List Bt)) (e : Ending) (w' : World) : Prop :=
  ((∃ p b x, V = some (p, ts.drop b) ∧ e = .returned (.tuple #[psV p.kind p.a p.b x, .bool true]) ∧ SelsAt d (fun b => w.heap.size ≤ b) w' x p.list ∧ Rd n₀ w' R v ts b (8 - (d : Int))) ∨ (V = none ∧ (∃ k x y q n c, e = .returned (.tuple #[psV k x y (.slice q n c), .bool false])) ∧ ∃ b, Rd n₀ w' R v ts b (8 - (d : Int)))) ∧ But R w w'

set_option maxRecDepth 100000 in
set_option maxHeartbeats 2000000 in
theorem listed_any (n₀ R : Nat) (v : Value) (ts : List Bt) (a : Nat) (d : Nat) (kind : Int) (w : World) (hP : Rd n₀ w R v ts a (8 - (d : Int))) (hS : OpsAt n₀ w) (hG : Good ts) (hd : d ≤ 8) (hL : ∀ d', d = d' + 1 → ListOK n₀ d') :
    Calls Tryd.prog 59 #[.pointer (some ⟨R, 0, none⟩), .int .i64 kind] w (PsOut n₀ R v ts d w (listedV (innerV d) kind (ts.drop a))) := by
  have hR := hP.lt
  have hlo := hP.low
  obtain ⟨b0, kZ⟩ := ps_new w
  have hP0 := hP.below b0
  obtain ⟨⟨p0, p1, p2⟩, g0, g1, g2⟩ := blk3 hP0.blk
  unfold PsOut
  cases d with
  | zero =>
    have hv : listedV (innerV 0) kind (ts.drop a) = none := listed_none rfl
    rw [hv]
    unfold psV
    go_enter Tryd.func59, Tryd.ntmps59
    go_upto_region 1 with fail
    generalize w.alloc (.cells #[.int .i64 0, .int .i64 0, .int .i64 0, .slice none 0 0] 43) = W0 at *
    obtain ⟨⟨z0, z1, z2, z3⟩, f0, f1, f2, f3⟩ := blk4 kZ
    rw [show (8 : Int) - ((0 : Nat) : Int) = 8 from rfl] at p2
    clear hv
    go_wp2
    refine bodyPost_ret (results_struct_tmp rfl _ _ w.heap.size _ rfl (load_ps (blk_set4 kZ (.int .i64 0) (.int .i64 0) (.int .i64 0) (.slice none 0 0)))) rfl ?_
    exact ⟨.inr ⟨trivial, ⟨0, 0, 0, none, 0, 0, rfl⟩, a, hP0.other4 (by omega) (by omega) _ _ _ _⟩, (Kept.of_below b0).fresh4 (Nat.le_refl _) _ _ _ _⟩
  | succ d =>
    have hLd := hL d rfl
    have hy := fun b l h he => listed_yes (L := innerV (d + 1)) (k := kind) (ts := ts) (a := a) (b := b) (l := l) h he
    have hn := fun b l h he => listed_no (L := innerV (d + 1)) (k := kind) (ts := ts) (a := a) (b := b) (l := l) h he
    have hno := listed_none (L := innerV (d + 1)) (k := kind) (r := ts.drop a)
    obtain ⟨V, hV⟩ : ∃ V, listedV (innerV (d + 1)) kind (ts.drop a) = V := ⟨_, rfl⟩
    rw [hV] at hy hn hno ⊢
    have HY : Hid (∀ b l, listV d (ts.drop a) = some (l, ts.drop b) → (at' ts b).kind = 17 → V = some (.mk kind 0 0 l, ts.drop (b + 1))) := hy
    have HN : Hid (∀ b l, listV d (ts.drop a) = some (l, ts.drop b) → ¬ (at' ts b).kind = 17 → V = none) := hn
    have HO : Hid (listV d (ts.drop a) = none → V = none) := hno
    clear hy hn hno hV hL
    have hi1 : ((8 - ((d + 1 : Nat) : Int)) == 8) = false := by simp; omega
    have hw1 : IntKind.i64.wrap (8 - ((d + 1 : Nat) : Int) + 1) = 8 - (d : Int) := by rw [IntKind.wrap_i64]; omega
    have hw2 : IntKind.i64.wrap (8 - (d : Int) - 1) = 8 - ((d + 1 : Nat) : Int) := by rw [IntKind.wrap_i64]; omega
    generalize hD1 : (8 - ((d + 1 : Nat) : Int)) = D1 at *
    unfold psV
    go_enter Tryd.func59, Tryd.ntmps59
    go_upto_region 1 with fail
    generalize w.alloc (.cells #[.int .i64 0, .int .i64 0, .int .i64 0, .slice none 0 0] 43) = W0 at *
    have hP1 := hP0.depth (8 - (d : Int))
    have hb1 : But R w _ := (Kept.of_below b0).trans (But.set R W0 2 (.int .i64 (8 - (d : Int))))
    have kZ1 := (But.set R W0 2 (.int .i64 (8 - (d : Int)))).blk kZ (by omega)
    have hsz : w.heap.size < (W0.setCell ⟨R, 2, none⟩ (.int .i64 (8 - (d : Int)))).heap.size := kZ1.lt
    generalize hD2 : 8 - (d : Int) = D2 at *
    go_upto_region 4 with fail
    generalize W0.setCell ⟨R, 2, none⟩ (.int .i64 D2) = w1 at *
    clear p0 p1 p2 g0 g1 g2 kZ hP0 b0 hi1
    subst hD2
    have h1 := hLd R v ts a w1 hP1 (hS.kept hb1 hlo hR) hG
    generalize hD2 : 8 - (d : Int) = D2 at *
    clear hLd
    go_wp2_with fail
    refine h1.mono ?_
    clear h1
    rintro e w2 ⟨hcs, hb2⟩
    replace kZ1 := hb2.blk kZ1 (by omega)
    replace hb1 := hb1.trans hb2
    rcases hcs with ⟨l, b, x, hlv, rfl, hx, hP2⟩ | ⟨hlv, rfl, b, hP2⟩
    · replace hx : SelsAt (d + 1) (fun b => w.heap.size < b) w2 x l := SelsAt.fr _ hx ⟨Nat.le_refl _, fun c hc _ => ⟨rfl, Nat.lt_of_lt_of_le hsz hc⟩⟩
      obtain ⟨px, cx, rfl⟩ := hx.form
      obtain ⟨⟨p0, p1, p2⟩, g0, g1, g2⟩ := blk3 hP2.blk
      have hP3 := hP2.depth D1
      have hb3 := hb1.trans (But.set R w2 2 (.int .i64 D1))
      have kZ3 := (But.set R w2 2 (.int .i64 D1)).blk kZ1 (by omega)
      have hxs : Kept (fun b => b ≠ R) w2 _ := But.set R w2 2 (.int .i64 D1)
      replace hx : SelsAt (d + 1) (fun b => w.heap.size < b) _ _ l := SelsAt.fr _ hx (Fr.of_kept hxs (fun c hc _ => ⟨by omega, hc⟩))
      clear hxs hb1 kZ1
      go_upto_region 6 with fail
      generalize w2.setCell ⟨R, 2, none⟩ (.int .i64 D1) = w3 at *
      clear p0 p1 p2 g0 g1 g2 hP2
      have h4 := passes_any n₀ R v ts b D1 17 w3 hP3 (by decide)
      by_cases h17 : (at' ts b).kind = 17
      · have hv := (show ∀ b l, _ → _ from HY) b l hlv h17
        rw [decide_eq_true h17, if_pos h17] at h4
        clear HY HN HO h17 hlv
        go_wp2_with fail
        refine h4.mono ?_
        clear h4
        rintro e w4 ⟨rfl, hP4, hb4⟩
        have kZ4 := hb4.blk kZ3 (by omega)
        have hx4 := SelsAt.fr (d + 1) hx (Fr.of_kept (P' := fun b => w.heap.size < b) hb4 (fun c hc _ => ⟨by omega, hc⟩))
        obtain ⟨⟨z0, z1, z2, z3⟩, f0, f1, f2, f3⟩ := blk4 kZ4
        go_wp2
        refine bodyPost_ret (results_struct_tmp rfl _ _ w.heap.size _ rfl (load_ps (blk_set4 kZ4 (.int .i64 kind) (.int .i64 0) (.int .i64 0) (.slice px l.length cx)))) rfl ?_
        exact ⟨.inl ⟨_, b + 1, _, hv, rfl, SelsAt.fr _ hx4 (ps_store w4 _ _ _ _), hP4.other4 (by omega) (by omega) _ _ _ _⟩, (hb3.trans hb4).fresh4 (Nat.le_refl _) _ _ _ _⟩
      · have hv := (show ∀ b l, _ → _ from HN) b l hlv h17
        rw [decide_eq_false h17, if_neg h17] at h4
        clear HY HN HO h17 hlv
        go_wp2_with fail
        refine h4.mono ?_
        clear h4
        rintro e w4 ⟨rfl, hP4, hb4⟩
        have kZ4 := hb4.blk kZ3 (by omega)
        obtain ⟨⟨z0, z1, z2, z3⟩, f0, f1, f2, f3⟩ := blk4 kZ4
        go_wp2
        refine bodyPost_ret (results_struct_tmp rfl _ _ w.heap.size _ rfl (load_ps (blk_set4 kZ4 (.int .i64 kind) (.int .i64 0) (.int .i64 0) (.slice px l.length cx)))) rfl ?_
        exact ⟨.inr ⟨hv, ⟨kind, 0, 0, px, l.length, cx, rfl⟩, b, hP4.other4 (by omega) (by omega) _ _ _ _⟩, (hb3.trans hb4).fresh4 (Nat.le_refl _) _ _ _ _⟩
    · have hv := (show _ → _ from HO) hlv
      clear HY HN HO hlv
      obtain ⟨⟨p0, p1, p2⟩, g0, g1, g2⟩ := blk3 hP2.blk
      have hP3 := hP2.depth D1
      have hb3 := hb1.trans (But.set R w2 2 (.int .i64 D1))
      have kZ3 := (But.set R w2 2 (.int .i64 D1)).blk kZ1 (by omega)
      clear hb1 kZ1
      go_upto_region 6 with fail
      generalize w2.setCell ⟨R, 2, none⟩ (.int .i64 D1) = w3 at *
      clear p0 p1 p2 g0 g1 g2 hP2
      obtain ⟨⟨z0, z1, z2, z3⟩, f0, f1, f2, f3⟩ := blk4 kZ3
      go_wp2
      refine bodyPost_ret (results_struct_tmp rfl _ _ w.heap.size _ rfl (load_ps (blk_set4 kZ3 (.int .i64 kind) (.int .i64 0) (.int .i64 0) (.slice none 0 0)))) rfl ?_
      exact ⟨.inr ⟨hv, ⟨kind, 0, 0, none, 0, 0, rfl⟩, b, hP3.other4 (by omega) (by omega) _ _ _ _⟩, hb3.fresh4 (Nat.le_refl _) _ _ _ _⟩

/-! ### a pseudo-class, by its first token -/
theorem pseudo_none {L : Inner} {ts : List Bt} {a : Nat} (h1 : ¬ (at' ts a).kind = 1) (h2 : ¬ (at' ts a).kind = 20) : pseudoV L (ts.drop a) = none := by
  by_cases hl : a < ts.length
  · rw [at_cons hl]
    simp only [pseudoV, if_neg h1, if_neg h2]
  · rw [List.drop_eq_nil_of_le (by omega)]
    rfl
theorem pseudo_plain {L : Inner} {ts : List Bt} {a : Nat} (h1 : (at' ts a).kind = 1) : pseudoV L (ts.drop a) = (plainV (lowOf (at' ts a))).map fun k => (.mk k 0 0 [], ts.drop (a + 1)) := by
  rw [at_cons (at_lt (by rw [h1]; decide))]
  simp only [pseudoV, if_pos h1]
theorem pseudo_func {L : Inner} {ts : List Bt} {a : Nat} (h1 : (at' ts a).kind = 20) : pseudoV L (ts.drop a) = if lowOf (at' ts a) = nthT then (nthV (ts.drop (a + 1))).map fun x => (.mk 6 x.1 x.2.1 [], x.2.2) else if lowOf (at' ts a) = notT then listedV L 7 (ts.drop (a + 1)) else if lowOf (at' ts a) = isT then listedV L 8 (ts.drop (a + 1)) else none := by
  rw [at_cons (at_lt (by rw [h1]; decide))]
  simp only [pseudoV, if_neg (show ¬ (at' ts a).kind = 1 by omega), if_pos h1]

end Go.Proofs.YtlcedbjlcjnkfabDoor.Sl
