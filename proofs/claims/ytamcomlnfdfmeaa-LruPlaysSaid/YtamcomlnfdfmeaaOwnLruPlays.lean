/- For every size and every row of calls: the law tapestrierlaw18.LruPlays returns true and leaves its arguments as they were; no condition. -/
import Derived.Test.YtamcomlnfdfmeaaLrRefB
import Derived.Test.YtamcomlnfdfmeaaLrArgs
namespace Go.Proofs.Ytamcomlnfdfmeaa
open Go.Proofs.Ytamcomlnfdfmeaa.Tre
open Go Go.ChangeShapes Go.WideShapes Go.ChangeAt Go.RowKit Bl Wg Lr

theorem Lr.LC.lt {X : World} {b s : Nat} {l : List En} (h : LC X b s l) : b < X.heap.size := h.elim fun _ h => h.lt
theorem Lr.LC.next {X Y : World} {b s : Nat} {l : List En} (h : LC X b s l) (hb : Below X.heap.size X Y) : LC Y b s l := h.elim fun v h => ⟨v, h.next hb⟩
theorem Lr.RC.next {X Y : World} {b s : Nat} {l : List En} (h : RC X b s l) (hb : Below X.heap.size X Y) : RC Y b s l := h.elim fun v h => ⟨v, h.next hb⟩
theorem Lr.LC.frameL {X Y : World} {b d s s' : Nat} {l l' : List En} (h : LC X b s l) (hd : LC X d s' l') (fr : Fr (fun r => r = d) (fun r => r = d) X Y) (hne : b ≠ d) : LC Y b s l := h.elim fun v h => hd.elim fun _ hd => ⟨v, h.frame fr hd.blk (by decide) hne⟩
theorem Lr.LC.frameR {X Y : World} {b d s s' : Nat} {l l' : List En} (h : LC X b s l) (hd : RC X d s' l') (fr : Fr (fun r => r = d) (fun r => r = d) X Y) (hne : b ≠ d) : LC Y b s l := h.elim fun v h => hd.elim fun _ hd => ⟨v, h.frame fr hd.blk (by decide) hne⟩
theorem Lr.LC.frameI {X Y : World} {b d s : Nat} {l : List En} {A : Array Value} (h : LC X b s l) (hd : X.heap[d]? = some (.cells A 3 (0, 0))) (fr : Fr (fun r => r = d) (fun r => r = d) X Y) : LC Y b s l := h.elim fun v h => ⟨v, h.frame fr hd (by decide) (fun e => by have := h.blk; rw [e, hd] at this; cases this)⟩
theorem Lr.RC.frameI {X Y : World} {b d s : Nat} {l : List En} {A : Array Value} (h : RC X b s l) (hd : X.heap[d]? = some (.cells A 3 (0, 0))) (fr : Fr (fun r => r = d) (fun r => r = d) X Y) : RC Y b s l := h.elim fun v h => ⟨v, h.frame fr hd (by decide) (fun e => by have := h.blk; rw [e, hd] at this; cases this)⟩
theorem Lr.RC.frameL {X Y : World} {b d s s' : Nat} {l l' : List En} (h : RC X b s l) (hd : LC X d s' l') (fr : Fr (fun r => r = d) (fun r => r = d) X Y) (hne : b ≠ d) : RC Y b s l := h.elim fun v h => hd.elim fun _ hd => ⟨v, h.frame fr hd.blk (by decide) hne⟩
/-- Block g has m cells of numbers, that may be written. -/
def Shp (X : World) (g m : Nat) : Prop := ∃ cur : Array Value, X.heap[g]? = some (.cells cur 3 (0, 0)) ∧ m ≤ cur.size
theorem Shp.cell {X : World} {g m j : Nat} (h : Shp X g m) (hj : j < m) : (∃ u, X.cell? ⟨g, j, none⟩ = some u) ∧ X.frozen? ⟨g, j, none⟩ = false := by
  obtain ⟨cur, h1, h2⟩ := h
  exact ⟨⟨cur[j], by simp [World.cell?, h1]⟩, by simp [World.frozen?, h1]⟩
theorem Shp.set {X : World} {g m j : Nat} {u : Value} (h : Shp X g m) : Shp (X.setCell ⟨g, j, none⟩ u) g m := by
  obtain ⟨cur, h1, h2⟩ := h
  have hlt : g < X.heap.size := (Array.getElem?_eq_some_iff.1 h1).1
  have hb := (Array.getElem?_eq_some_iff.1 h1).2
  exact ⟨cur.setIfInBounds j u, by simp [World.setCell, hlt, Array.getElem_modify, hb], by simpa using h2⟩
/-- The law's three caches: the program's c with l, another o, the document's r with k. -/
structure Three (w : World) (c s : Nat) (l : List En) (lo k : List En) (X : World) : Prop where
  main : LC X c s l
  other : LC X (c + 1) 3 lo
  ref : RC X (c + 2) s k
  low : w.heap.size ≤ c
  below : Below w.heap.size w X
theorem Three.next {w X Y : World} {c s : Nat} {l lo k : List En} (h : Three w c s l lo k X) (hb : Below X.heap.size X Y) : Three w c s l lo k Y := ⟨h.main.next hb, h.other.next hb, h.ref.next hb, h.low, h.below.trans (hb.mono h.below.size)⟩
theorem Three.puto {w X : World} {c s : Nat} {l lo k : List En} (h : Three w c s l lo k X) (i j : Int) :
    Calls Try.prog 9 #[.pointer (some ⟨c + 1, 0, none⟩), .int .i64 i, .int .i64 j] X fun e w' => e = .returned (.tuple #[.int .i64 (putR 3 lo i j).1, .bool (putR 3 lo i j).2]) ∧ Three w c s l (putL 3 lo i j) k w' := by
  refine Calls.mono (put_any (c + 1) 3 lo i j X h.other) ?_
  rintro e w' ⟨he, hl, fr⟩
  exact ⟨he, h.main.frameL h.other fr (by omega), hl, h.ref.frameL h.other fr (by omega), h.low, h.below.trans (fr.below h.below.size (fun r e => by have := h.low; omega))⟩
theorem Three.putm {w X : World} {c s : Nat} {l lo k : List En} (h : Three w c s l lo k X) (i j : Int) :
    Calls Try.prog 9 #[.pointer (some ⟨c, 0, none⟩), .int .i64 i, .int .i64 j] X fun e w' => e = .returned (.tuple #[.int .i64 (putR s l i j).1, .bool (putR s l i j).2]) ∧ Three w c s (putL s l i j) lo k w' ∧ Fr (fun r => r = c) (fun r => r = c) X w' := by
  refine Calls.mono (put_any c s l i j X h.main) ?_
  rintro e w' ⟨he, hl, fr⟩
  exact ⟨he, ⟨hl, h.other.frameL h.main fr (by omega), h.ref.frameL h.main fr (by omega), h.low, h.below.trans (fr.below h.below.size (fun r e => by have := h.low; omega))⟩, fr⟩
theorem Three.putr {w X : World} {c s : Nat} {l lo k : List En} (h : Three w c s l lo k X) (i j : Int) :
    Calls Try.prog 10 #[.pointer (some ⟨c + 2, 0, none⟩), .int .i64 i, .int .i64 j] X fun e w' => e = .returned (.tuple #[.int .i64 (putR s k i j).1, .bool (putR s k i j).2]) ∧ Three w c s l lo (putL s k i j) w' := by
  refine Calls.mono (refPut_any (c + 2) s k i j X h.ref) ?_
  rintro e w' ⟨he, hl, fr⟩
  exact ⟨he, h.main.frameR h.ref fr (by omega), h.other.frameR h.ref fr (by omega), hl, h.low, h.below.trans (fr.below h.below.size (fun r e => by have := h.low; omega))⟩
theorem Three.getm {w X : World} {c s : Nat} {l lo k : List En} (h : Three w c s l lo k X) (i : Int) :
    Calls Try.prog 11 #[.pointer (some ⟨c, 0, none⟩), .int .i64 i] X fun e w' => e = .returned (.tuple #[.int .i64 (getR l i).1, .bool (getR l i).2]) ∧ Three w c s (getL l i) lo k w' ∧ Fr (fun r => r = c) (fun r => r = c) X w' := by
  refine Calls.mono (get_any c s l i X h.main) ?_
  rintro e w' ⟨he, hl, fr⟩
  exact ⟨he, ⟨hl, h.other.frameL h.main fr (by omega), h.ref.frameL h.main fr (by omega), h.low, h.below.trans (fr.below h.below.size (fun r e => by have := h.low; omega))⟩, fr⟩
theorem Three.getr {w X : World} {c s : Nat} {l lo k : List En} (h : Three w c s l lo k X) (i : Int) :
    Calls Try.prog 12 #[.pointer (some ⟨c + 2, 0, none⟩), .int .i64 i] X fun e w' => e = .returned (.tuple #[.int .i64 (getR k i).1, .bool (getR k i).2]) ∧ Three w c s l lo (getL k i) w' := by
  refine Calls.mono (refGet_any (c + 2) s k i X h.ref) ?_
  rintro e w' ⟨he, hl, fr⟩
  exact ⟨he, h.main.frameR h.ref fr (by omega), h.other.frameR h.ref fr (by omega), hl, h.low, h.below.trans (fr.below h.below.size (fun r e => by have := h.low; omega))⟩
theorem Three.set {w X : World} {c s : Nat} {l lo k : List En} (h : Three w c s l lo k X) {g m : Nat} (hs : Shp X g m) (hg : w.heap.size ≤ g) (j : Nat) (u : Value) : Three w c s l lo k (X.setCell ⟨g, j, none⟩ u) := by
  obtain ⟨cur, h1, _⟩ := hs
  have hlt : g < X.heap.size := (Array.getElem?_eq_some_iff.1 h1).1
  have fr : Fr (fun r => r = g) (fun r => r = g) X (X.setCell ⟨g, j, none⟩ u) := (Fr.refl (fun r e => by rw [e]; exact hlt)).grown (setCell_grown _ _ _ _) (fun r e => by cases e; exact .inl rfl)
  exact ⟨h.main.frameI h1 fr, h.other.frameI h1 fr, h.ref.frameI h1 fr, h.low, h.below.trans (fr.below h.below.size (fun r e => by rw [e]; exact hg))⟩
theorem Three.new (w X : World) (n : Int) (hb : Below w.heap.size w X) : Three w X.heap.size (cutV n) [] [] [] (((X.alloc (.cells #[.int .i64 (cutV n), .slice none 0 0] 44)).alloc (.cells #[.int .i64 (cutV 3), .slice none 0 0] 44)).alloc (.cells #[.int .i64 (cutV n), .slice none 0 0] 47)) := by
  have h1 : LC (X.alloc (.cells #[.int .i64 (cutV n), .slice none 0 0] 44)) X.heap.size (cutV n) [] := ⟨_, LV.new n X⟩
  have h2 : LC ((X.alloc (.cells #[.int .i64 (cutV n), .slice none 0 0] 44)).alloc (.cells #[.int .i64 (cutV 3), .slice none 0 0] 44)) (X.heap.size + 1) 3 [] := by
    have := LV.new 3 (X.alloc (.cells #[.int .i64 (cutV n), .slice none 0 0] 44))
    rw [World.size_alloc] at this
    exact ⟨_, this⟩
  have h3 := RV.new n ((X.alloc (.cells #[.int .i64 (cutV n), .slice none 0 0] 44)).alloc (.cells #[.int .i64 (cutV 3), .slice none 0 0] 44))
  rw [World.size_alloc, World.size_alloc] at h3
  have bl : ∀ (Y : World) (o : Obj), Below Y.heap.size Y (Y.alloc o) := fun Y o => (Below.refl _ _).alloc (Nat.le_refl _) _
  have hs := hb.size
  exact ⟨(h1.next (bl _ _)).next (bl _ _), h2.next (bl _ _), ⟨_, h3⟩, hs, ((hb.alloc hs _).alloc (by simp; omega) _).alloc (by simp; omega) _⟩

set_option maxRecDepth 100000 in
set_option maxHeartbeats 4000000 in
theorem lruPlays_walk (w : World) (n : Int) (_h0 : (Lit.int .i64 n).wf = true) (v : Value) (l : List Ac) (hl : Acts18R w v l) :
    Calls Try.prog 3 #[.int .i64 n, v] w fun e w' => e = .returned (.bool true) ∧ Below w.heap.size w w' := by
  have hal := Lr.alive_any w
  obtain ⟨p, cap, rfl⟩ := RowT.len hl
  have HR : Hid (Acts18R w (.slice p l.length cap) l) := hl
  have hmx := RowT.short hl
  unfold maxLen at hmx
  clear hl
  go_enter Try.func3, Try.ntmps3
  go_wp2_with fail
  go_at_call 6
  refine Calls.mono hal ?_
  clear hal _h0
  rintro e w1 ⟨rfl, b1⟩
  by_cases g3 : 100 < l.length
  · have d3 : decide (100 < l.length) = true := by simpa using g3
    have d3' : decide ((100 : Int) < (l.length : Int)) = true := by simp; omega
    clear g3
    go_wp2
    go_ret
    exact ⟨rfl, b1⟩
  have d3 : decide (100 < l.length) = false := by simpa using g3
  have d3' : decide ((100 : Int) < (l.length : Int)) = false := by simp; omega
  have S0 := Three.new w w1 n b1
  have hn1 := new_any n w1
  clear g3 b1
  go_wp2_with fail
  go_at_call 7
  refine Calls.mono hn1 ?_
  clear hn1
  rintro e w2 ⟨rfl, hw2⟩
  rw [← hw2] at S0
  have hs2 : w2.heap.size = w1.heap.size + 1 := by rw [hw2]; simp
  have hn1 := new_any 3 w2
  rw [hs2] at hn1
  have HS2 : Hid (_ = _) := hs2
  clear hw2 hs2
  go_wp2_with fail
  go_at_call 7
  refine Calls.mono hn1 ?_
  clear hn1
  rintro e w3 ⟨rfl, hw3⟩
  rw [← hw3] at S0
  have hs3 : w3.heap.size = w1.heap.size + 2 := by rw [hw3]; simp [HS2.out]
  have hn1 := refNew_any n w3
  rw [hs3] at hn1
  clear hw3 hs3 HS2
  go_wp2_with fail
  go_at_call 8
  refine Calls.mono hn1 ?_
  clear hn1
  rintro e w4 ⟨rfl, hw4⟩
  rw [← hw4] at S0
  generalize w1.heap.size = c at *
  generalize cutV n = s at *
  clear hw4 d3 d3'
  obtain ⟨L, hL⟩ : ∃ L, l.length = L := ⟨_, rfl⟩
  rw [hL] at HR hmx ⊢
  have HL : Hid (l.length = L) := hL
  clear hL
  go_wp2_with fail
  go_loopw [9] (fun x wr => ∃ (i : Nat) (ls lo : List En), x = .int .i64 i ∧ i ≤ L ∧ Three w c s ls lo ls wr) (fun x _ => L - (intOf x).toNat)
  case atStart => exact ⟨0, [], [], rfl, Nat.zero_le _, S0⟩
  case round =>
    clear S0
    obtain ⟨i, ls, lo, rfl, hi, S⟩ := hrel
    have HS : Hid (Three w c s ls lo ls wr) := S
    clear S
    by_cases hil : i < L
    · have hlt : decide (i < L) = true := by simpa using hil
      obtain ⟨⟨f, ka, va⟩, hr⟩ : ∃ r, l[i]? = some r := ⟨_, List.getElem?_eq_getElem (by have := HL.out; omega)⟩
      obtain ⟨bb, off, rfl, hcl⟩ := Acts18R.get HR.out hr
      have HCL : Hid (∀ X, Below w.heap.size w X → X.cell? ⟨bb, off + i * 3, none⟩ = some (.bool f) ∧ X.cell? ⟨bb, off + i * 3 + 1, none⟩ = some (.int .i64 ka) ∧ X.cell? ⟨bb, off + i * 3 + 2, none⟩ = some (.int .i64 va)) := hcl
      have hii : (i : Int) < (L : Int) := by omega
      have HIL : Hid (i < L) := hil
      have hp := HS.out.puto i i
      clear hcl hr hi hil HS
      go_wp2_with fail
      go_at_call 9
      refine Calls.mono hp ?_
      clear hp
      rintro e w5 ⟨rfl, S5⟩
      obtain ⟨e0, e1, e2⟩ := HCL.out _ S5.below
      generalize putL 3 lo i i = lo' at *
      obtain ⟨w6, hw6⟩ : ∃ w6, w5.alloc (.cells #[.bool f, .int .i64 ka, .int .i64 va] 31) = w6 := ⟨_, rfl⟩
      have S6 : Three w c s ls lo' ls w6 := by rw [← hw6]; exact S5.next ((Below.refl _ _).alloc (Nat.le_refl _) _)
      have hA : w6.heap[w5.heap.size]? = some (.cells #[.bool f, .int .i64 ka, .int .i64 va] 31 (0, 0)) := by rw [← hw6]; exact World.alloc_heap_new _ _
      have a0 : w6.cell? ⟨w5.heap.size, 0, none⟩ = some (.bool f) := by simp [World.cell?, hA]
      have a1 : w6.cell? ⟨w5.heap.size, 1, none⟩ = some (.int .i64 ka) := by simp [World.cell?, hA]
      have a2 : w6.cell? ⟨w5.heap.size, 2, none⟩ = some (.int .i64 va) := by simp [World.cell?, hA]
      cases f with
      | true =>
        have hp := S6.putm ka va
        have hlt5 : c < w5.heap.size := S5.main.lt
        have HA : Hid (_ ∧ _) := ⟨hA, hlt5⟩
        clear S5 S6 hA hlt5
        go_wp2_with fail
        go_at_call 9
        refine Calls.mono hp ?_
        clear hp a0 a1 a2
        rintro e w7 ⟨rfl, S7, f7⟩
        have hA7 := (f7.block w5.heap.size (Array.getElem?_eq_some_iff.1 HA.out.1).1 (fun e => by have := HA.out.2; omega)).trans HA.out.1
        have a1 : w7.cell? ⟨w5.heap.size, 1, none⟩ = some (.int .i64 ka) := by simp [World.cell?, hA7]
        have a2 : w7.cell? ⟨w5.heap.size, 2, none⟩ = some (.int .i64 va) := by simp [World.cell?, hA7]
        have hp := S7.putr ka va
        generalize putR s ls ka va = R at *
        generalize putL s ls ka va = ls' at *
        clear S7 f7 hA7
        go_wp2_with fail
        go_at_call 10
        refine Calls.mono hp ?_
        clear hp a1 a2
        rintro e w8 ⟨rfl, S8⟩
        have hb1 : (R.1 == R.1) = true := by simp
        have hb2 : (R.2 == R.2) = true := by simp
        have hk := keys_any c s ls' w8 S8.main
        have HS8 : Hid (Three w c s ls' lo' ls' w8) := S8
        clear S8
        go_wp2_with fail
        go_at_call 13
        refine Calls.mono hk ?_
        clear hk
        rintro e w9 ⟨v9, rfl, hr9, b9⟩
        have S9 := HS8.out.next b9
        have hk := refKeys_any (c + 2) s ls' w9 S9.ref
        have hq9 : (v9 = .slice none 0 0 ∧ (keysV ls').length = 0) ∨ ∃ g cq, v9 = .slice (some ⟨g, 0, none⟩) (keysV ls').length cq ∧ w.heap.size ≤ g ∧ Shp w9 g (keysV ls').length ∧ g < w9.heap.size := by
          rcases hr9.2 with h0 | ⟨g, cq, cur, h0, h1, h2, h3, _, h5, _⟩
          · exact .inl h0
          · exact .inr ⟨g, cq, h0, by have := HS8.out.below.size; omega, ⟨cur, h2, by omega⟩, (Array.getElem?_eq_some_iff.1 h2).1⟩
        obtain ⟨q9, cq9, rfl⟩ := hr9.ints.len
        have hml := keys_len ls'
        obtain ⟨m, hm⟩ : ∃ m, ls'.length = m := ⟨_, rfl⟩
        rw [hm] at hml
        have H9 : Hid (Three w c s ls' lo' ls' w9 ∧ IntsR w9 (.slice q9 m cq9) (keysV ls') ∧ (∀ r, (Value.slice q9 m cq9).ownBlock = some r → r < w9.heap.size) ∧ ((q9 = none ∧ m = 0) ∨ ∃ g, q9 = some ⟨g, 0, none⟩ ∧ w.heap.size ≤ g ∧ Shp w9 g m ∧ g < w9.heap.size)) := by
          refine ⟨S9, by rw [← hml]; exact hr9.ints, fun r hr => (Sl.owns_lt hr9 (g := r) (by rw [hml]; exact hr)).2, ?_⟩
          rw [hml] at hq9
          rcases hq9 with ⟨h0, h1⟩ | ⟨g, cq, h0, h1, h2, h3⟩
          · cases h0; exact .inl ⟨rfl, h1⟩
          · cases h0; exact .inr ⟨g, rfl, h1, h2, h3⟩
        have HM : Hid (ls'.length = m) := hm
        have hm1 : m ≤ 1024 := by have := S9.main.elim fun _ h => h.few; omega
        rw [hml]
        clear S9 hr9 b9 hq9 hml hm
        go_wp2_with fail
        go_at_call 15
        refine Calls.mono hk ?_
        clear hk
        rintro e w10 ⟨v10, rfl, hr10, b10⟩
        have i10 : IntsR w10 (.slice q9 m cq9) (keysV ls') := H9.out.2.1.kept (fun r hr => b10.block r (H9.out.2.2.1 r hr))
        have hs := same_yes (.slice q9 m cq9) v10 (keysV ls') w10 i10 hr10.ints
        obtain ⟨q10, cq10, rfl⟩ := hr10.ints.len
        have HB10 : Hid (Below w9.heap.size w9 w10) := b10
        clear i10 hr10 b10
        go_wp2_with fail
        go_at_call 14
        refine Calls.mono hs ?_
        clear hs
        rintro e w11 ⟨rfl, b11⟩
        have bb11 : Below w9.heap.size w9 w11 := HB10.out.trans (b11.mono HB10.out.size)
        have S11 := H9.out.1.next bb11
        have hln := S11.main.elim fun v h => len_any c s v ls' w11 h
        rw [show ls'.length = m from HM.out] at hln
        have hne : ((m : Int) != (m : Int)) = false := by simp
        have H11 : Hid (Three w c s ls' lo' ls' w11 ∧ ((q9 = none ∧ m = 0) ∨ ∃ g, q9 = some ⟨g, 0, none⟩ ∧ w.heap.size ≤ g ∧ Shp w11 g m)) := ⟨S11, H9.out.2.2.2.imp id (fun ⟨g, h0, h1, ⟨cur, h2, h3⟩, h4⟩ => ⟨g, h0, h1, cur, (bb11.block g h4).trans h2, h3⟩)⟩
        clear S11 bb11 b11
        go_wp2_with fail
        go_at_call 16
        refine Calls.mono hln ?_
        clear hln
        rintro e w12 ⟨rfl, rfl⟩
        go_wp2_with fail
        go_loopw [21] (fun x wr => ∃ j : Nat, x = .int .i64 j ∧ j ≤ m ∧ Three w c s ls' lo' ls' wr ∧ Hid ((q9 = none ∧ m = 0) ∨ ∃ g, q9 = some ⟨g, 0, none⟩ ∧ w.heap.size ≤ g ∧ Shp wr g m)) (fun x _ => m - (intOf x).toNat)
        case atStart => exact ⟨0, rfl, Nat.zero_le _, H11.out.1, H11.out.2⟩
        case round =>
          obtain ⟨j, rfl, hj, S12, HQ⟩ := hrel
          have H12 : Hid (Three w c s ls' lo' ls' wr) := S12
          clear S12
          by_cases hjm : j < m
          · have hlt2 : decide (j < m) = true := by simpa using hjm
            have hji : (j : Int) < (m : Int) := by omega
            rcases HQ.out with ⟨_, h0⟩ | ⟨g, rfl, hg, hsh⟩
            · omega
            obtain ⟨⟨u0, e0⟩, f0⟩ := hsh.cell hjm
            have FIN : Hid (Three w c s ls' lo' ls' (wr.setCell ⟨g, j, none⟩ (.int .i64 (-5))) ∧ Shp (wr.setCell ⟨g, j, none⟩ (.int .i64 (-5))) g m ∧ w.heap.size ≤ g ∧ j < m) := ⟨H12.out.set hsh hg j _, hsh.set, hg, hjm⟩
            clear hj hjm HQ hg hsh
            go_wp2
            go_roundw
            case rel => exact ⟨j + 1, by go_num, FIN.out.2.2.2, FIN.out.1, .inr ⟨g, rfl, FIN.out.2.2.1, FIN.out.2.1⟩⟩
            case measure => have := FIN.out.2.2.2; simp [intOf] <;> omega
          · have hlt2 : decide (j < m) = false := by simpa using hjm
            clear hj hjm HQ
            go_wp2
            go_roundw
            case rel => exact ⟨i + 1, ls', lo', by go_num, HIL.out, H12.out⟩
            case measure => have := HIL.out; simp [intOf] <;> omega
      | false =>
        have hp := S6.getm ka
        have hlt5 : c < w5.heap.size := S5.main.lt
        have HA : Hid (_ ∧ _) := ⟨hA, hlt5⟩
        clear S5 S6 hA hlt5
        go_wp2_with fail
        go_at_call 11
        refine Calls.mono hp ?_
        clear hp a0 a1 a2
        rintro e w7 ⟨rfl, S7, f7⟩
        have hA7 := (f7.block w5.heap.size (Array.getElem?_eq_some_iff.1 HA.out.1).1 (fun e => by have := HA.out.2; omega)).trans HA.out.1
        have a1 : w7.cell? ⟨w5.heap.size, 1, none⟩ = some (.int .i64 ka) := by simp [World.cell?, hA7]
        have a2 : w7.cell? ⟨w5.heap.size, 2, none⟩ = some (.int .i64 va) := by simp [World.cell?, hA7]
        have hp := S7.getr ka
        generalize getR ls ka = R at *
        generalize getL ls ka = ls' at *
        clear S7 f7 hA7
        go_wp2_with fail
        go_at_call 12
        refine Calls.mono hp ?_
        clear hp a1 a2
        rintro e w8 ⟨rfl, S8⟩
        have hb1 : (R.1 == R.1) = true := by simp
        have hb2 : (R.2 == R.2) = true := by simp
        have hk := keys_any c s ls' w8 S8.main
        have HS8 : Hid (Three w c s ls' lo' ls' w8) := S8
        clear S8
        go_wp2_with fail
        go_at_call 13
        refine Calls.mono hk ?_
        clear hk
        rintro e w9 ⟨v9, rfl, hr9, b9⟩
        have S9 := HS8.out.next b9
        have hk := refKeys_any (c + 2) s ls' w9 S9.ref
        have hq9 : (v9 = .slice none 0 0 ∧ (keysV ls').length = 0) ∨ ∃ g cq, v9 = .slice (some ⟨g, 0, none⟩) (keysV ls').length cq ∧ w.heap.size ≤ g ∧ Shp w9 g (keysV ls').length ∧ g < w9.heap.size := by
          rcases hr9.2 with h0 | ⟨g, cq, cur, h0, h1, h2, h3, _, h5, _⟩
          · exact .inl h0
          · exact .inr ⟨g, cq, h0, by have := HS8.out.below.size; omega, ⟨cur, h2, by omega⟩, (Array.getElem?_eq_some_iff.1 h2).1⟩
        obtain ⟨q9, cq9, rfl⟩ := hr9.ints.len
        have hml := keys_len ls'
        obtain ⟨m, hm⟩ : ∃ m, ls'.length = m := ⟨_, rfl⟩
        rw [hm] at hml
        have H9 : Hid (Three w c s ls' lo' ls' w9 ∧ IntsR w9 (.slice q9 m cq9) (keysV ls') ∧ (∀ r, (Value.slice q9 m cq9).ownBlock = some r → r < w9.heap.size) ∧ ((q9 = none ∧ m = 0) ∨ ∃ g, q9 = some ⟨g, 0, none⟩ ∧ w.heap.size ≤ g ∧ Shp w9 g m ∧ g < w9.heap.size)) := by
          refine ⟨S9, by rw [← hml]; exact hr9.ints, fun r hr => (Sl.owns_lt hr9 (g := r) (by rw [hml]; exact hr)).2, ?_⟩
          rw [hml] at hq9
          rcases hq9 with ⟨h0, h1⟩ | ⟨g, cq, h0, h1, h2, h3⟩
          · cases h0; exact .inl ⟨rfl, h1⟩
          · cases h0; exact .inr ⟨g, rfl, h1, h2, h3⟩
        have HM : Hid (ls'.length = m) := hm
        have hm1 : m ≤ 1024 := by have := S9.main.elim fun _ h => h.few; omega
        rw [hml]
        clear S9 hr9 b9 hq9 hml hm
        go_wp2_with fail
        go_at_call 15
        refine Calls.mono hk ?_
        clear hk
        rintro e w10 ⟨v10, rfl, hr10, b10⟩
        have i10 : IntsR w10 (.slice q9 m cq9) (keysV ls') := H9.out.2.1.kept (fun r hr => b10.block r (H9.out.2.2.1 r hr))
        have hs := same_yes (.slice q9 m cq9) v10 (keysV ls') w10 i10 hr10.ints
        obtain ⟨q10, cq10, rfl⟩ := hr10.ints.len
        have HB10 : Hid (Below w9.heap.size w9 w10) := b10
        clear i10 hr10 b10
        go_wp2_with fail
        go_at_call 14
        refine Calls.mono hs ?_
        clear hs
        rintro e w11 ⟨rfl, b11⟩
        have bb11 : Below w9.heap.size w9 w11 := HB10.out.trans (b11.mono HB10.out.size)
        have S11 := H9.out.1.next bb11
        have hln := S11.main.elim fun v h => len_any c s v ls' w11 h
        rw [show ls'.length = m from HM.out] at hln
        have hne : ((m : Int) != (m : Int)) = false := by simp
        have H11 : Hid (Three w c s ls' lo' ls' w11 ∧ ((q9 = none ∧ m = 0) ∨ ∃ g, q9 = some ⟨g, 0, none⟩ ∧ w.heap.size ≤ g ∧ Shp w11 g m)) := ⟨S11, H9.out.2.2.2.imp id (fun ⟨g, h0, h1, ⟨cur, h2, h3⟩, h4⟩ => ⟨g, h0, h1, cur, (bb11.block g h4).trans h2, h3⟩)⟩
        clear S11 bb11 b11
        go_wp2_with fail
        go_at_call 16
        refine Calls.mono hln ?_
        clear hln
        rintro e w12 ⟨rfl, rfl⟩
        go_wp2_with fail
        go_loopw [21] (fun x wr => ∃ j : Nat, x = .int .i64 j ∧ j ≤ m ∧ Three w c s ls' lo' ls' wr ∧ Hid ((q9 = none ∧ m = 0) ∨ ∃ g, q9 = some ⟨g, 0, none⟩ ∧ w.heap.size ≤ g ∧ Shp wr g m)) (fun x _ => m - (intOf x).toNat)
        case atStart => exact ⟨0, rfl, Nat.zero_le _, H11.out.1, H11.out.2⟩
        case round =>
          obtain ⟨j, rfl, hj, S12, HQ⟩ := hrel
          have H12 : Hid (Three w c s ls' lo' ls' wr) := S12
          clear S12
          by_cases hjm : j < m
          · have hlt2 : decide (j < m) = true := by simpa using hjm
            have hji : (j : Int) < (m : Int) := by omega
            rcases HQ.out with ⟨_, h0⟩ | ⟨g, rfl, hg, hsh⟩
            · omega
            obtain ⟨⟨u0, e0⟩, f0⟩ := hsh.cell hjm
            have FIN : Hid (Three w c s ls' lo' ls' (wr.setCell ⟨g, j, none⟩ (.int .i64 (-5))) ∧ Shp (wr.setCell ⟨g, j, none⟩ (.int .i64 (-5))) g m ∧ w.heap.size ≤ g ∧ j < m) := ⟨H12.out.set hsh hg j _, hsh.set, hg, hjm⟩
            clear hj hjm HQ hg hsh
            go_wp2
            go_roundw
            case rel => exact ⟨j + 1, by go_num, FIN.out.2.2.2, FIN.out.1, .inr ⟨g, rfl, FIN.out.2.2.1, FIN.out.2.1⟩⟩
            case measure => have := FIN.out.2.2.2; simp [intOf] <;> omega
          · have hlt2 : decide (j < m) = false := by simpa using hjm
            clear hj hjm HQ
            go_wp2
            go_roundw
            case rel => exact ⟨i + 1, ls', lo', by go_num, HIL.out, H12.out⟩
            case measure => have := HIL.out; simp [intOf] <;> omega
    · have hlt : decide (i < L) = false := by simpa using hil
      clear hi hil
      go_wp2
      go_ret
      exact ⟨rfl, HS.out.below⟩


set_option maxRecDepth 100000 in
theorem lruPlays_lifted (os : Os) (started : os.Started) (H : Type) (enc : TypeId × Value → H) :
    ReturnsInHanded {} Try.checked os 3 .any (Rows.lruPlaysSpec.pre6 enc Try.prog Try.f3 Rows.lruPlaysRow.domain false) (Rows.lruPlaysSpec.post enc Try.prog Try.f3 false true false false) := by
  refine returnsInHanded_of_change_sized (C := Try.checked) ownNone started (by kernel_rfl) Try.func3
    (ChangeSpec.witness6 (enc := enc) (C := Try.checked) false ⟨#[], #[.int .i64 0, .slice none 0 0], []⟩ 8 (by kernel_rfl) (by kernel_rfl) (by kernel_rfl) (by kernel_rfl)) ?_
  intro W base args ds gs before hval hW _ hsz0 _
  have hW' := hW
  obtain ⟨p, q, hA0, hV, rfl, hfz, hnd⟩ := hW
  have hA : DataW.TrodAll enc Try.prog W 0 (fun _ => true) true Try.f3.params.toList args.toList ds p := hA0
  rw [Try.params3] at hA hval hsz0
  obtain ⟨v0, vs0, d0, ds0, p0, q0, hargs, rfl, rfl, h0, r0⟩ := trodAll_cons hA
  obtain ⟨v1, vs1, d1, ds1, p1, q1, rfl, rfl, rfl, h1, r1⟩ := trodAll_cons r0
  obtain ⟨rfl, rfl, rfl⟩ := trodAll_nil r1
  obtain rfl : args = #[v0, v1] := by cases args; simp_all
  obtain ⟨rfl, rfl⟩ := trodVars_none hV
  have hsz := List.all_eq_true.1 hsz0
  obtain ⟨a0, rfl, rfl, rfl, w0⟩ := open_int Try.underlying3 (hval 0 3 v0 rfl rfl) h0
  obtain ⟨a1, len1, cap1, rfl⟩ := okWide_slice Try.underlying22 (hval 1 22 v1 rfl rfl)
  have k1 := h1
  have lt1 : ∀ x ∈ p1, x.block < W.heap.size := by obtain ⟨m, hm⟩ := k1; exact DataW.trod_lt m _ _ _ hm
  obtain ⟨z1, w1⟩ := acts18At_of_reads k1 (fun n hn => by simpa using hsz n (DataW.weights_mem_each (j := 1) rfl rfl n hn))
  clear hA0
  refine (lruPlays_walk W a0 w0 _ z1 w1).mono fun e W' ⟨he, bel⟩ => ?_
  subst he
  exact ⟨_, rfl, _, _, _, [], _, [], hW', trodAll_mk1 (shut_bool Try.underlying4 _), (trodAll_cons_mk (shut_int Try.underlying3 w0) (trodAll_cons_mk (Below.trod laidOut (by kernel_rfl) (of_decide_eq_true (by kernel_rfl)) k1 bel lt1) trodAll_mk0)), rfl, bel.frame _, fun h => by cases h⟩

theorem lruPlays_said : Rows.LruPlaysSaid :=
  OpenClaim.holds_of_wide 3 Try.f3 rfl rfl rfl rfl rfl rfl rfl ⟨rfl, rfl, rfl, rfl, rfl⟩ rfl rfl rfl rfl rfl (by kernel_rfl) Try.func3 (by kernel_rfl)
    (of_decide_eq_true (by kernel_rfl)) (by unfold Func.isWrapper; first | (rw [if_pos (by decide +kernel)]; kernel_rfl) | (rw [if_neg (by decide +kernel)]; exact ⟨rfl, rfl⟩))
    (fun os started H enc _ => lruPlays_lifted os started H enc)
#print axioms lruPlays_said

end Go.Proofs.Ytamcomlnfdfmeaa
