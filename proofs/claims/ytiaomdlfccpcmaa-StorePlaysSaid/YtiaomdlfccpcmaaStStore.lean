/- Package store: every call, at every store of the call's own. -/
import Derived.Test.YtiaomdlfccpcmaaStPut
import Derived.Test.YtiaomdlfccpcmaaRgn
namespace Go.Proofs.Ytiaomdlfccpcmaa.Sto
open Go Go.RowKit Sl

/-- Block b is a store with the structs l. -/
def ST (W : World) (b : Nat) (l : List He) : Prop := ∃ p, StAt W b p (liveN l) l.length ∧ Tr (fun _ => True) W p (atV l)
theorem ST.lt {X : World} {b : Nat} {l : List He} (h : ST X b l) : b < X.heap.size := h.elim fun _ h => h.1.lt
theorem ST.next {X Y : World} {b : Nat} {l : List He} (h : ST X b l) (hb : Below X.heap.size X Y) : ST Y b l := h.elim fun p h => ⟨p, h.1.next hb, h.2.next hb⟩
/-- Another store was changed. -/
theorem ST.frame {X Y : World} {b c : Nat} {l k : List He} (h : ST X b l) (hc : ST X c k) (hne : b ≠ c) (ch : Chg c X Y) : ST Y b l := h.elim fun p h => hc.elim fun _ hq => ⟨p, (ch.block b h.1.lt hne).trans h.1, h.2.store hq.1 ch⟩
theorem ST.new (X : World) : ST (X.alloc (.cells #[.pointer none, .int .i64 0, .int .i64 0] 28)) X.heap.size [] :=
  ⟨none, heap_alloc_new X _, .nil (fun _ => rfl)⟩

set_option maxRecDepth 100000 in
theorem count_any (b : Nat) (l : List He) (i : Int) (w : World) (hi : i ≤ 9223372036854775807) (hS : ST w b l) :
    Calls Try.prog 16 #[.pointer (some ⟨b, 0, none⟩), .int .i64 i] w fun e w' => e = .returned (.int .i64 (cntV l i)) ∧ Below w.heap.size w w' := by
  obtain ⟨p, hS, ht⟩ := hS
  have hf := find_any _ b p _ i w hi hS.cells.1.1 ht
  have hv : cntV l i = ((lookV (atV l) i).getD zeroH).2 := by unfold cntV; cases lookV (atV l) i <;> rfl
  rw [hv]
  clear hv hS ht
  generalize (lookV (atV l) i).isSome = r at *
  generalize (lookV (atV l) i).getD zeroH = x at *
  go_enter Try.func16, Try.ntmps16
  go_wp2_with fail
  refine hf.mono ?_
  clear hf
  rintro e w2 ⟨rfl, hb2⟩
  have hb3 : Below w2.heap.size w2 (w2.alloc (.cells (heL x).toArray 53)) := (Below.refl _ _).alloc (Nat.le_refl _) _
  have hb4 := hb2.trans (hb3.mono hb2.size)
  simp only [heL] at hb4
  clear hb2 hb3
  go_wp2
  go_ret
  exact ⟨rfl, hb4⟩

set_option maxRecDepth 100000 in
theorem live_any (b : Nat) (l : List He) (w : World) (hS : ST w b l) :
    Calls Try.prog 18 #[.pointer (some ⟨b, 0, none⟩)] w fun e w' => e = .returned (.int .i64 (liveN l)) ∧ w' = w := by
  obtain ⟨p, hS, ht⟩ := hS
  obtain ⟨⟨c0, c1, c2⟩, _⟩ := hS.cells
  clear hS ht
  go_enter Try.func18, Try.ntmps18
  go_wp2
  go_ret
  exact ⟨rfl, rfl⟩

set_option maxRecDepth 100000 in
set_option maxHeartbeats 1000000 in
theorem get_any (b : Nat) (l : List He) (i : Int) (w : World) (hi : i ≤ 9223372036854775807) (hS : ST w b l) :
    Calls Try.prog 14 #[.pointer (some ⟨b, 0, none⟩), .int .i64 i] w fun e w' => e = .returned (.tuple #[sty (getV l i).1, .int .i64 (getV l i).2]) ∧ Below w.heap.size w w' := by
  obtain ⟨p, hS, ht⟩ := hS
  obtain ⟨W, hW⟩ : ∃ W, w.alloc (.cells (styL (fun _ => 0)).toArray 35) = W := ⟨_, rfl⟩
  have hb : Below w.heap.size w W := by rw [← hW]; exact (Below.refl _ _).alloc (Nat.le_refl _) _
  have hR : SAt W w.heap.size (fun _ => 0) := by rw [← hW]; exact SAt.new w _
  have hf := find_any _ b p _ i W hi (hS.next hb).cells.1.1 (ht.next hb)
  have hv : getV l i = (((lookV (atV l) i).getD zeroH).1, if (lookV (atV l) i).isSome = true then 0 else 6) := by unfold getV; cases lookV (atV l) i <;> rfl
  rw [hv]
  clear hv hS ht
  have h0 : (lookV (atV l) i).isSome = false → (lookV (atV l) i).getD zeroH = zeroH := by cases lookV (atV l) i <;> simp
  generalize (lookV (atV l) i).isSome = r at *
  generalize (lookV (atV l) i).getD zeroH = x at *
  simp only [styL] at hW
  go_enter Try.func14, Try.ntmps14
  go_upto_region 1 with fail
  clear hW
  go_wp2_with fail
  refine hf.mono ?_
  clear hf
  rintro e w2 ⟨rfl, hb2⟩
  have hb3 : Below w2.heap.size w2 (w2.alloc (.cells (heL x).toArray 53)) := (Below.refl _ _).alloc (Nat.le_refl _) _
  have hb4 := hb2.trans (hb3.mono hb2.size)
  have hR4 := hR.next hb4
  have hb5 := below_next hb hb4
  have hs5 := hb.size
  have hX := HAt.new w2 x
  simp only [heL] at hb5 hR4 hX
  clear hb2 hb3 hb4 hR hb
  go_upto_region 2 with fail
  generalize w2.alloc _ = X at *
  obtain ⟨r0, r1, r2, r3, r4, r5, r6, r7⟩ := hR4.cells
  obtain ⟨f0, f1, f2, f3, f4, f5, f6, f7⟩ := hR4.thaw
  obtain ⟨a0, a1, a2, a3, a4, a5, a6, a7, a8⟩ := hX.cells
  have hF := load_sty (hR4.set8 x.1)
  have hB := below_grew hb5 (grown_set8 X w.heap.size x.1) hb5.size (fun r e => by cases e; exact Nat.le_refl _)
  simp only [set8] at hF hB
  clear hR4 hX hb5
  cases r
  · obtain rfl := h0 rfl
    clear h0
    go_wp2
    refine bodyPost_ret (results_cell_tmp rfl _ _ w.heap.size _ _ rfl rfl hF) rfl ?_
    exact ⟨rfl, hB⟩
  · clear h0
    go_wp2
    refine bodyPost_ret (results_cell_tmp rfl _ _ w.heap.size _ _ rfl rfl hF) rfl ?_
    exact ⟨rfl, hB⟩

end Go.Proofs.Ytiaomdlfccpcmaa.Sto
