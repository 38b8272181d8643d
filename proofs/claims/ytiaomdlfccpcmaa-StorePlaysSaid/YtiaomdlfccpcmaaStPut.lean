/- Package store: a struct put at a number, and taken away. -/
import Derived.Test.YtiaomdlfccpcmaaStWith
namespace Go.Proofs.Ytiaomdlfccpcmaa.Sto
open Go Go.RowKit Sl

/-- Block b alone was changed. -/
structure Chg (b : Nat) (X Y : World) : Prop where
  os : Y.os = X.os
  tape : Y.tape = X.tape
  output : Y.output = X.output
  size : X.heap.size ≤ Y.heap.size
  block : ∀ r, r < X.heap.size → r ≠ b → Y.heap[r]? = X.heap[r]?
theorem Chg.of_below {b : Nat} {X Y : World} (h : Below X.heap.size X Y) : Chg b X Y := ⟨h.os, h.tape, h.output, h.size, fun r hr _ => h.block r hr⟩
theorem Chg.next {b : Nat} {X Y Z : World} (h : Chg b X Y) (k : Below Y.heap.size Y Z) : Chg b X Z := ⟨k.os.trans h.os, k.tape.trans h.tape, k.output.trans h.output, Nat.le_trans h.size k.size, fun r hr hne => (k.block r (Nat.lt_of_lt_of_le hr h.size)).trans (h.block r hr hne)⟩
theorem Chg.trans {b : Nat} {X Y Z : World} (h : Chg b X Y) (k : Chg b Y Z) : Chg b X Z := ⟨k.os.trans h.os, k.tape.trans h.tape, k.output.trans h.output, Nat.le_trans h.size k.size, fun r hr hne => (k.block r (Nat.lt_of_lt_of_le hr h.size) hne).trans (h.block r hr hne)⟩
theorem Chg.set {b : Nat} {X Y : World} (h : Chg b X Y) (i : Nat) (v : Value) : Chg b X (Y.setCell ⟨b, i, none⟩ v) :=
  have g := grown_set Y b i v
  ⟨g.os.trans h.os, g.tape.trans h.tape, g.output.trans h.output, by have := g.size; have := h.size; omega, fun r hr hne => (g.block r (Nat.lt_of_lt_of_le hr h.size) (fun e => hne (Option.some.inj e))).trans (h.block r hr hne)⟩
theorem Chg.refl (b : Nat) (X : World) : Chg b X X := ⟨rfl, rfl, rfl, Nat.le_refl _, fun _ _ _ => rfl⟩
theorem Chg.below {b n : Nat} {X Y : World} (h : Chg b X Y) (hn : n ≤ X.heap.size) (hb : n ≤ b) : Below n X Y := ⟨h.os, h.tape, h.output, h.size, fun r hr => h.block r (by omega) (by omega)⟩
/-- Block b is a store: its tree, how many it has, how many numbers were given. -/
def StAt (W : World) (b : Nat) (p : Option Addr) (cnt g : Int) : Prop := Blk W b 28 [.pointer p, .int .i64 cnt, .int .i64 g]
theorem StAt.next {X Y : World} {b : Nat} {p : Option Addr} {cnt g : Int} (h : StAt X b p cnt g) (hb : Below X.heap.size X Y) : StAt Y b p cnt g := Blk.below h hb (Blk.lt h)
theorem StAt.lt {X : World} {b : Nat} {p : Option Addr} {cnt g : Int} (h : StAt X b p cnt g) : b < X.heap.size := Blk.lt h
theorem StAt.cells {X : World} {b : Nat} {p : Option Addr} {cnt g : Int} (h : StAt X b p cnt g) : (X.cell? ⟨b, 0, none⟩ = some (.pointer p) ∧ X.cell? ⟨b, 1, none⟩ = some (.int .i64 cnt) ∧ X.cell? ⟨b, 2, none⟩ = some (.int .i64 g)) ∧ X.frozen? ⟨b, 0, none⟩ = false ∧ X.frozen? ⟨b, 1, none⟩ = false ∧ X.frozen? ⟨b, 2, none⟩ = false := blk3 h
theorem StAt.put0 {X : World} {b : Nat} {p : Option Addr} {cnt g : Int} (h : StAt X b p cnt g) (p' : Option Addr) : StAt (X.setCell ⟨b, 0, none⟩ (.pointer p')) b p' cnt g := blk_put h 0 _
theorem StAt.put1 {X : World} {b : Nat} {p : Option Addr} {cnt g : Int} (h : StAt X b p cnt g) (c' : Int) : StAt (X.setCell ⟨b, 1, none⟩ (.int .i64 c')) b p c' g := blk_put h 1 _
theorem StAt.put2 {X : World} {b : Nat} {p : Option Addr} {cnt g : Int} (h : StAt X b p cnt g) (g' : Int) : StAt (X.setCell ⟨b, 2, none⟩ (.int .i64 g')) b p cnt g' := blk_put h 2 _
theorem Tr.drew {D : Nat → Prop} {X : World} {p : Option Addr} {f : Nat → Option He} (h : Tr D X p f) : Tr D X.drew p f := Tr.kept (X := X) (Y := X.drew) (fun _ _ _ => rfl) h
theorem Tr.store {D : Nat → Prop} {X Y : World} {b : Nat} {p q : Option Addr} {cnt g : Int} {f : Nat → Option He} (h : Tr D X q f) (hb : StAt X b p cnt g) (hc : Chg b X Y) : Tr D Y q f := h.other hb (by decide) (by decide) hc.block
theorem HAt.store {X Y : World} {b B : Nat} {p : Option Addr} {cnt g : Int} {h : He} (k : HAt X B h) (hb : StAt X b p cnt g) (hc : Chg b X Y) : HAt Y B h :=
  (hc.block B k.lt (fun e => by subst e; have h1 : X.heap[B]? = _ := k; rw [show X.heap[B]? = _ from hb] at h1; cases h1)).trans k

set_option maxRecDepth 100000 in
set_option maxHeartbeats 1000000 in
theorem put_any (D : Nat → Prop) (b : Nat) (p : Option Addr) (f : Nat → Option He) (i : Nat) (h : He) (cnt g cn : Int) (hcn : cn = if (f i).isSome = true then cnt else cnt + 1) (w : World) (hi : (i : Int) ≤ 9223372036854775807) (hc : 0 ≤ cnt ∧ cnt ≤ 1000000) (hS : StAt w b p cnt g) (ht : Tr D w p f) :
    Calls Try.prog 20 #[.pointer (some ⟨b, 0, none⟩), .int .i64 i, heV h] w fun e w' => e = .returned (.tuple #[]) ∧ ∃ p', StAt w' b p' cn g ∧ Tr (fun r => D r ∨ w.heap.size ≤ r) w' p' (updV f i (some h)) ∧ Chg b w w' := by
  obtain ⟨W, hW⟩ : ∃ W, w.alloc (.cells (heL h).toArray 53) = W := ⟨_, rfl⟩
  have hb : Below w.heap.size w W := by rw [← hW]; exact (Below.refl _ _).alloc (Nat.le_refl _) _
  have hH : HAt W w.heap.size h := by rw [← hW]; exact HAt.new w h
  have hS1 := hS.next hb
  have ht1 := ht.next hb
  have hlt := hS.lt
  have hf := find_any D b p f i W hi hS1.cells.1.1 ht1
  rw [lookV_cast] at hf
  clear hS ht
  simp only [heL] at hW
  go_enter Try.func20, Try.ntmps20
  go_upto_region 1 with fail
  clear hW
  have HCN : Hid (cn = if (f i).isSome = true then cnt else cnt + 1) := hcn
  clear hcn
  generalize hr : (f i).isSome = r at hf
  generalize (f i).getD zeroH = x at *
  go_wp2_with fail
  refine hf.mono ?_
  clear hf
  rintro e w2 ⟨rfl, hb2⟩
  have hb3 : Below w2.heap.size w2 (w2.alloc (.cells (heL x).toArray 53)) := (Below.refl _ _).alloc (Nat.le_refl _) _
  have hb4 := hb2.trans (hb3.mono hb2.size)
  have hS3 := hS1.next hb4
  have ht3 := ht1.next hb4
  have hH3 := hH.next hb4
  have hC3 : Chg b w _ := Chg.of_below (below_next hb hb4)
  simp only [heL] at hS3 ht3 hH3 hC3
  clear hb2 hb3 hb4 hS1 ht1 hH hb
  go_upto_region 2 with fail
  generalize w2.alloc _ = X at *
  obtain ⟨⟨c0, c1, c2⟩, f0, f1, f2⟩ := hS3.cells
  cases r
  case' false =>
    have hw : wrap64 (cnt + 1) = cnt + 1 := by unfold wrap64; omega
    have hS4 := hS3.put1 (cnt + 1)
    have hC4 := hC3.set 1 (.int .i64 (cnt + 1))
    have ht4 := ht3.store hS3 ((Chg.refl b X).set 1 (.int .i64 (cnt + 1)))
    have hH4 := hH3.store hS3 ((Chg.refl b X).set 1 (.int .i64 (cnt + 1)))
    clear hS3 hC3 ht3 hH3
    go_upto_region 4 with fail
    clear c0 c1 c2 f0 f1 f2
    generalize X.setCell _ _ = Y at *
    rw [show cnt + 1 = cn from by rw [HCN.out, hr]; rfl] at hS4
  case' true =>
    go_upto_region 4 with fail
    clear c0 c1 c2 f0 f1 f2
    have hS4 := hS3
    have hC4 := hC3
    have ht4 := ht3
    have hH4 := hH3
    clear hS3 hC3 ht3 hH3
    obtain ⟨Y, hY⟩ : ∃ Y, X = Y := ⟨_, rfl⟩
    rw [hY] at hS4 hC4 ht4 hH4 ⊢
    rw [show cnt = cn from by rw [HCN.out, hr]; rfl] at hS4
  all_goals
    clear hr HCN
    have hcall := with_any i (fun r => D r ∨ w.heap.size ≤ r) p f (some ⟨w.heap.size, 0, none⟩) (some h) Y hi (ht4.mono (fun r hr => .inl hr)) (.inr ⟨_, h, rfl, rfl, hH4, .inr (Nat.le_refl _)⟩)
    have hYs := hC4.size
    obtain ⟨⟨c0, _, _⟩, f0, _, _⟩ := hS4.cells
    clear ht4 hH4
    go_wp2_with fail
    refine hcall.mono ?_
    clear hcall c0 f0
    rintro e w5 ⟨p', rfl, ht5, hb5⟩
    have hS5 := hS4.next hb5
    obtain ⟨⟨c0, _, _⟩, f0, _, _⟩ := hS5.cells
    have hS6 := hS5.put0 p'
    have hC6 := (hC4.next hb5).set 0 (.pointer p')
    have ht6 := (ht5.store hS5 ((Chg.refl b w5).set 0 (.pointer p'))).mono (D' := fun r => D r ∨ w.heap.size ≤ r) (fun r hr => by
      rcases hr with hr | hr
      · exact hr
      · exact .inr (by omega))
    clear hS4 hC4 hS5 ht5 hb5
    go_wp2
    go_end0
    exact ⟨rfl, _, hS6, ht6, hC6⟩

set_option maxRecDepth 100000 in
set_option maxHeartbeats 1000000 in
theorem drop_any (D : Nat → Prop) (b : Nat) (p : Option Addr) (f : Nat → Option He) (i : Nat) (cnt g : Int) (w : World) (hi : (i : Int) ≤ 9223372036854775807) (hc : 0 ≤ cnt ∧ cnt ≤ 1000000) (hS : StAt w b p cnt g) (ht : Tr D w p f) (hr : (f i).isSome = true) :
    Calls Try.prog 25 #[.pointer (some ⟨b, 0, none⟩), .int .i64 i] w fun e w' => e = .returned (.tuple #[]) ∧ ∃ p', StAt w' b p' (cnt - 1) g ∧ Tr (fun r => D r ∨ w.heap.size ≤ r) w' p' (updV f i none) ∧ Chg b w w' := by
  have hlt := hS.lt
  have hf := find_any D b p f i w hi hS.cells.1.1 ht
  rw [lookV_cast, hr] at hf
  clear hr
  generalize (f i).getD zeroH = x at *
  go_enter Try.func25, Try.ntmps25
  go_wp2_with fail
  refine hf.mono ?_
  clear hf
  rintro e w2 ⟨rfl, hb2⟩
  have hb3 : Below w2.heap.size w2 (w2.alloc (.cells (heL x).toArray 53)) := (Below.refl _ _).alloc (Nat.le_refl _) _
  have hb4 := hb2.trans (hb3.mono hb2.size)
  have hS3 := hS.next hb4
  have ht3 := ht.next hb4
  have hC3 : Chg b w _ := Chg.of_below hb4
  simp only [heL] at hS3 ht3 hC3
  clear hb2 hb3 hb4 hS ht
  go_upto_region 1 with fail
  generalize w2.alloc _ = X at *
  obtain ⟨⟨c0, c1, c2⟩, f0, f1, f2⟩ := hS3.cells
  have hw : wrap64 (cnt - 1) = cnt - 1 := by unfold wrap64; omega
  have hS4 := hS3.put1 (cnt - 1)
  have hC4 := hC3.set 1 (.int .i64 (cnt - 1))
  have ht4 := ht3.store hS3 ((Chg.refl b X).set 1 (.int .i64 (cnt - 1)))
  clear hS3 hC3 ht3
  go_upto_region 3 with fail
  clear c0 c1 c2 f0 f1 f2
  generalize X.setCell _ _ = Y at *
  have hcall := with_any i D p f none none Y hi ht4 (.inl ⟨rfl, rfl⟩)
  have hYs := hC4.size
  obtain ⟨⟨c0, _, _⟩, f0, _, _⟩ := hS4.cells
  clear ht4
  go_wp2_with fail
  refine hcall.mono ?_
  clear hcall c0 f0
  rintro e w5 ⟨p', rfl, ht5, hb5⟩
  have hS5 := hS4.next hb5
  obtain ⟨⟨c0, _, _⟩, f0, _, _⟩ := hS5.cells
  have hS6 := hS5.put0 p'
  have hC6 := (hC4.next hb5).set 0 (.pointer p')
  have ht6 := (ht5.store hS5 ((Chg.refl b w5).set 0 (.pointer p'))).mono (D' := fun r => D r ∨ w.heap.size ≤ r) (fun r hr => by
    rcases hr with hr | hr
    · exact .inl hr
    · exact .inr (by omega))
  clear hS4 hC4 hS5 ht5 hb5
  go_wp2
  go_end0
  exact ⟨rfl, _, hS6, ht6, hC6⟩

end Go.Proofs.Ytiaomdlfccpcmaa.Sto
