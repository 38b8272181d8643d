/- Two lists of selectors in memory, that are one: the document's own SameStrings, SameCompound, SameSelectors. -/
import Derived.Test.YtdplmbifhknafaaDoorWgMem
import Derived.Test.YtdplmbifhknafaaDoorRgn
namespace Go.Proofs.YtdplmbifhknafaaDoor.Wg
open Go.Proofs.YtdplmbifhknafaaDoor.Tre
open Go Go.RowKit Sl

/-- As SelsR, to the last list. -/
def SelsE : Nat → Nat → World → Value → List Sel → Prop
  | 0, _, _, v, l => l = [] ∧ v = .slice none 0 0
  | d + 1, n, W, v, l => RowT 1 (fun c s => ∃ x, c = [x] ∧ PtsR (SelsE d n W) n W x s) n W v l
theorem SelsE.below : ∀ (d : Nat) {n : Nat} {X Y : World} {v : Value} {l : List Sel}, SelsE d n X v l → Below n X Y → SelsE d n Y v l
  | 0, _, _, _, _, _, h, _ => h
  | d + 1, _, _, _, _, _, h, hb => RowT.below h hb (fun _ _ ⟨x, e, hx⟩ => ⟨x, e, hx.below hb (fun _ _ hq => SelsE.below d hq hb)⟩)
theorem SelsE.mono : ∀ (d : Nat) {n m : Nat} {X : World} {v : Value} {l : List Sel}, SelsE d n X v l → n ≤ m → SelsE d m X v l
  | 0, _, _, _, _, _, h, _ => h
  | d + 1, _, _, _, _, _, h, hn => RowT.mono h hn (fun _ _ ⟨x, e, hx⟩ => ⟨x, e, hx.mono hn (fun _ _ hq => SelsE.mono d hq hn)⟩)
theorem SelsE.next {d : Nat} {X Y : World} {v : Value} {l : List Sel} (h : SelsE d X.heap.size X v l) (hb : Below X.heap.size X Y) : SelsE d Y.heap.size Y v l := (h.below d hb).mono d hb.size
theorem SelsE.len {d n : Nat} {X : World} {v : Value} {l : List Sel} (h : SelsE d n X v l) : ∃ p cap, v = .slice p l.length cap := by
  cases d with
  | zero => obtain ⟨rfl, rfl⟩ := h; exact ⟨_, _, rfl⟩
  | succ d => exact RowT.len h
theorem SelsE.nil : ∀ (d n : Nat) (W : World), SelsE d n W (.slice none 0 0) []
  | 0, _, _ => ⟨rfl, rfl⟩
  | _ + 1, _, _ => .inl ⟨rfl, _, _, rfl⟩
theorem SelsAt.toE : ∀ (d : Nat) {P : Nat → Prop} {W : World} {v : Value} {l : List Sel}, Sl.SelsAt d P W v l → SelsE d W.heap.size W v l
  | 0, _, _, _, _, h => h
  | d + 1, _, _, _, _, h => FinRow.toR h (fun _ _ ⟨x, e, hx⟩ => ⟨x, e, PtsF.toR hx (fun _ _ hq => SelsAt.toE d hq)⟩)
theorem CpC.next {d : Nat} {X Y : World} {c : List Value} {q : Cp} (h : CpC (SelsE d X.heap.size X) X.heap.size X c q) (hb : Below X.heap.size X Y) : CpC (SelsE d Y.heap.size Y) Y.heap.size Y c q := (h.below hb (fun _ _ hq => hq.below d hb)).mono hb.size (fun _ _ hq => hq.mono d hb.size)

set_option maxRecDepth 100000 in
set_option maxHeartbeats 1000000 in
theorem sameStrs_yes (n₀ : Nat) (v v' : Value) (l : List ByteArray) (w : World) (h : RowT 1 StrC n₀ w v l) (h' : RowT 1 StrC n₀ w v' l) (hn : n₀ ≤ w.heap.size) :
    Calls Tryd.prog 27 #[v, v'] w fun e w' => e = .returned (.bool true) ∧ Below w.heap.size w w' := by
  obtain ⟨p, cap, rfl⟩ := h.len
  obtain ⟨p', cap', rfl⟩ := h'.len
  have hsh := h.short
  unfold maxLen at hsh
  have HV : Hid (∀ X, Below n₀ w X → RowT 1 StrC n₀ X (.slice p l.length cap) l) := fun X hX => h.below hX (fun _ _ h => h)
  have HV' : Hid (∀ X, Below n₀ w X → RowT 1 StrC n₀ X (.slice p' l.length cap') l) := fun X hX => h'.below hX (fun _ _ h => h)
  clear h h'
  go_enter Tryd.func27, Tryd.ntmps27
  go_wp2
  go_loopw [5] (fun x wr => ∃ k : Nat, x = .int .i64 k ∧ k ≤ l.length ∧ Below w.heap.size w wr) (fun x _ => l.length - (intOf x).toNat)
  case atStart => exact ⟨0, rfl, Nat.zero_le _, Below.refl _ _⟩
  case round =>
    obtain ⟨k, rfl, hk, bw⟩ := hrel
    by_cases hlt : k < l.length
    · have hki : (k : Int) < (l.length : Int) := by omega
      obtain ⟨s, hs⟩ : ∃ s, l[k]? = some s := ⟨_, List.getElem?_eq_getElem hlt⟩
      obtain ⟨b, off, c, rfl, hbn, h1, h2, _, hc, hcell⟩ := RowT.get ((show ∀ X, _ → _ from HV) wr (bw.mono hn)) hs
      obtain ⟨b', off', c', rfl, hbn', h1', h2', _, hc', hcell'⟩ := RowT.get ((show ∀ X, _ → _ from HV') wr (bw.mono hn)) hs
      obtain rfl : c = [.string s] := hc
      obtain rfl : c' = [.string s] := hc'
      have x0 := hcell 0 _ rfl
      have y0 := hcell' 0 _ rfl
      rw [Nat.mul_one, Nat.add_zero] at x0 y0
      clear hcell hcell' hs
      go_wp2
      go_quiet (fail)
      go_wp2
      exact ⟨⟨k + 1, by go_num, by omega, below_drewN' bw _⟩, by simp [intOf]; omega⟩
    · have hki : ¬ (k : Int) < (l.length : Int) := by omega
      go_wp2
      go_ret
      exact ⟨rfl, bw⟩
def SameOK (d : Nat) : Prop := ∀ (v v' : Value) (l : List Sel) (w : World), SelsE d w.heap.size w v l → SelsE d w.heap.size w v' l → Calls Tryd.prog 11 #[v, v'] w fun e w' => e = .returned (.bool true) ∧ Below w.heap.size w w'

set_option maxRecDepth 100000 in
set_option maxHeartbeats 4000000 in
theorem sameCp_yes (d : Nat) (hS : SameOK d) (q : Cp) (i k a p i' k' a' p' : Value) (w : World) (h : CpC (SelsE d w.heap.size w) w.heap.size w [.string q.tag, i, k, a, p] q) (h' : CpC (SelsE d w.heap.size w) w.heap.size w [.string q.tag, i', k', a', p'] q) :
    Calls Tryd.prog 17 #[.agg #[.string q.tag, i, k, a, p], .agg #[.string q.tag, i', k', a', p']] w fun e w' => e = .returned (.bool true) ∧ Below w.heap.size w w' := by
  obtain ⟨_, _, _, _, e, r1, r2, r3, r4⟩ := h
  cases e
  obtain ⟨_, _, _, _, e, s1, s2, s3, s4⟩ := h'
  cases e
  obtain ⟨qi, ci, rfl⟩ := r1.len
  obtain ⟨qk, ck, rfl⟩ := r2.len
  obtain ⟨qa, ca, rfl⟩ := r3.len
  obtain ⟨qp, cp, rfl⟩ := r4.len
  obtain ⟨ti, di, rfl⟩ := s1.len
  obtain ⟨tk, dk, rfl⟩ := s2.len
  obtain ⟨ta, da, rfl⟩ := s3.len
  obtain ⟨tp, dp, rfl⟩ := s4.len
  have hla := r3.short
  have hlp := r4.short
  unfold maxLen at hla hlp
  obtain ⟨W, hW⟩ : ∃ W, (w.alloc (.cells #[.string q.tag, .slice qi q.ids.length ci, .slice qk q.classes.length ck, .slice qa q.attrs.length ca, .slice qp q.pss.length cp] 40)).alloc (.cells #[.string q.tag, .slice ti q.ids.length di, .slice tk q.classes.length dk, .slice ta q.attrs.length da, .slice tp q.pss.length dp] 40) = W := ⟨_, rfl⟩
  have b0 : Below w.heap.size w W := by rw [← hW]; exact ((Below.refl _ w).alloc (Nat.le_refl _) _).alloc (by simp) _
  have k0 : Blk W w.heap.size 40 [.string q.tag, .slice qi q.ids.length ci, .slice qk q.classes.length ck, .slice qa q.attrs.length ca, .slice qp q.pss.length cp] := by
    rw [← hW]
    exact (Blk.new w 40 _).kept (World.grownBy_alloc _ _ none) (by simp)
  have k1 : Blk W (w.heap.size + 1) 40 [.string q.tag, .slice ti q.ids.length di, .slice tk q.classes.length dk, .slice ta q.attrs.length da, .slice tp q.pss.length dp] := by
    rw [← hW]
    have := Blk.new (w.alloc (.cells #[.string q.tag, .slice qi q.ids.length ci, .slice qk q.classes.length ck, .slice qa q.attrs.length ca, .slice qp q.pss.length cp] 40)) 40 [.string q.tag, .slice ti q.ids.length di, .slice tk q.classes.length dk, .slice ta q.attrs.length da, .slice tp q.pss.length dp]
    rwa [World.size_alloc] at this
  have HS : Hid (SameOK d) := hS
  have H3 : Hid (∀ X, Below w.heap.size w X → RowT 3 AtC w.heap.size X (.slice qa q.attrs.length ca) q.attrs ∧ RowT 3 AtC w.heap.size X (.slice ta q.attrs.length da) q.attrs) := fun X hX => ⟨r3.below hX (fun _ _ h => h), s3.below hX (fun _ _ h => h)⟩
  have H4 : Hid (∀ X, Below w.heap.size w X → RowT 4 (PsC (SelsE d w.heap.size X)) w.heap.size X (.slice qp q.pss.length cp) q.pss ∧ RowT 4 (PsC (SelsE d w.heap.size X)) w.heap.size X (.slice tp q.pss.length dp) q.pss) := fun X hX => ⟨r4.below hX (fun _ _ ⟨x, e, hx⟩ => ⟨x, e, hx.below d hX⟩), s4.below hX (fun _ _ ⟨x, e, hx⟩ => ⟨x, e, hx.below d hX⟩)⟩
  have c1 := fun X (hX : Below w.heap.size w X) => sameStrs_yes w.heap.size _ _ q.ids X (r1.below hX (fun _ _ h => h)) (s1.below hX (fun _ _ h => h)) hX.size
  have c2 := fun X (hX : Below w.heap.size w X) => sameStrs_yes w.heap.size _ _ q.classes X (r2.below hX (fun _ _ h => h)) (s2.below hX (fun _ _ h => h)) hX.size
  have C2 : Hid (∀ X, _) := c2
  have d1 := c1 W b0
  clear hS r1 r2 r3 r4 s1 s2 s3 s4 c1 c2
  go_enter Tryd.func17, Tryd.ntmps17
  go_upto_region 1 with fail
  clear hW
  obtain ⟨⟨x0, x1, x2, x3, x4⟩, _⟩ := blk5 k0
  obtain ⟨⟨y0, y1, y2, y3, y4⟩, _⟩ := blk5 k1
  go_wp2_with fail
  refine d1.mono ?_
  clear d1 x0 x1 x2 x3 x4 y0 y1 y2 y3 y4
  rintro e W1 ⟨rfl, b1⟩
  replace k0 := k0.below b1 k0.lt
  replace k1 := k1.below b1 k1.lt
  have bw1 := below_next b0 b1
  have d2 := (show ∀ X, _ → _ from C2) W1 bw1
  clear b0 b1 C2
  obtain ⟨⟨x0, x1, x2, x3, x4⟩, _⟩ := blk5 k0
  obtain ⟨⟨y0, y1, y2, y3, y4⟩, _⟩ := blk5 k1
  go_wp2_with fail
  refine d2.mono ?_
  clear d2 x0 x1 x2 x3 x4 y0 y1 y2 y3 y4
  rintro e W2 ⟨rfl, b2⟩
  replace k0 := k0.below b2 k0.lt
  replace k1 := k1.below b2 k1.lt
  have bw2 := below_next bw1 b2
  clear bw1 b2
  obtain ⟨⟨x0, x1, x2, x3, x4⟩, _⟩ := blk5 k0
  obtain ⟨⟨y0, y1, y2, y3, y4⟩, _⟩ := blk5 k1
  go_upto_region 3 with fail
  clear x0 x1 x2 x3 x4 y0 y1 y2 y3 y4
  go_wp2_with fail
  go_loopw [5] (fun x wr => ∃ j : Nat, x = .int .i64 j ∧ j ≤ q.attrs.length ∧ Below w.heap.size w wr ∧ Blk wr w.heap.size 40 [.string q.tag, .slice qi q.ids.length ci, .slice qk q.classes.length ck, .slice qa q.attrs.length ca, .slice qp q.pss.length cp] ∧ Blk wr (w.heap.size + 1) 40 [.string q.tag, .slice ti q.ids.length di, .slice tk q.classes.length dk, .slice ta q.attrs.length da, .slice tp q.pss.length dp]) (fun x _ => q.attrs.length - (intOf x).toNat)
  case atStart => exact ⟨0, rfl, Nat.zero_le _, bw2, k0, k1⟩
  case round =>
    clear bw2 k0 k1
    obtain ⟨j, rfl, hj, bj, k0, k1⟩ := hrel
    by_cases hlt : j < q.attrs.length
    · have hji : (j : Int) < (q.attrs.length : Int) := by omega
      obtain ⟨u, hu⟩ : ∃ u, q.attrs[j]? = some u := ⟨_, List.getElem?_eq_getElem hlt⟩
      obtain ⟨t3, t3'⟩ := (show ∀ X, _ → _ from H3) wr bj
      obtain ⟨b, off, c, rfl, hbn, h1, h2, _, hc, hcell⟩ := RowT.get t3 hu
      obtain ⟨b', off', c', rfl, hbn', h1', h2', _, hc', hcell'⟩ := RowT.get t3' hu
      obtain rfl : c = [.string u.name, .int .i64 u.op, .string u.text] := hc
      obtain rfl : c' = [.string u.name, .int .i64 u.op, .string u.text] := hc'
      have z0 := hcell 0 _ rfl
      have z1 := hcell 1 _ rfl
      have z2 := hcell 2 _ rfl
      have v0 := hcell' 0 _ rfl
      have v1 := hcell' 1 _ rfl
      have v2 := hcell' 2 _ rfl
      rw [Nat.add_zero] at z0 v0
      obtain ⟨⟨_, _, _, x3, _⟩, _⟩ := blk5 k0
      obtain ⟨⟨_, _, _, y3, _⟩, _⟩ := blk5 k1
      have bD : Hid (∀ n, Below w.heap.size w (wr.drewN n) ∧ Blk (wr.drewN n) w.heap.size 40 _ ∧ Blk (wr.drewN n) (w.heap.size + 1) 40 _) := fun n => ⟨below_drewN' bj n, blk_drew k0 n, blk_drew k1 n⟩
      clear hcell hcell' hu t3 t3' k0 k1 bj
      go_wp2
      go_quiet (fail)
      go_wp2
      exact ⟨⟨j + 1, by go_num, by omega, (show ∀ n, _ from bD) _⟩, by simp [intOf]; omega⟩
    · have hji : ¬ (j : Int) < (q.attrs.length : Int) := by omega
      obtain ⟨⟨_, _, _, x3, _⟩, _⟩ := blk5 k0
      go_upto_region 8 with fail
      clear x3
      go_wp2_with fail
      go_loopw [6] (fun x wr => ∃ j : Nat, x = .int .i64 j ∧ j ≤ q.pss.length ∧ Below w.heap.size w wr ∧ Blk wr w.heap.size 40 [.string q.tag, .slice qi q.ids.length ci, .slice qk q.classes.length ck, .slice qa q.attrs.length ca, .slice qp q.pss.length cp] ∧ Blk wr (w.heap.size + 1) 40 [.string q.tag, .slice ti q.ids.length di, .slice tk q.classes.length dk, .slice ta q.attrs.length da, .slice tp q.pss.length dp]) (fun x _ => q.pss.length - (intOf x).toNat)
      case atStart => exact ⟨0, rfl, Nat.zero_le _, bj, k0, k1⟩
      case round =>
        clear bj k0 k1
        obtain ⟨m, rfl, hm, bj, k0, k1⟩ := hrel
        obtain ⟨⟨_, _, _, _, x4⟩, _⟩ := blk5 k0
        by_cases hml : m < q.pss.length
        · have hmi : (m : Int) < (q.pss.length : Int) := by omega
          obtain ⟨u, hu⟩ : ∃ u, q.pss[m]? = some u := ⟨_, List.getElem?_eq_getElem hml⟩
          obtain ⟨t4, t4'⟩ := (show ∀ X, _ → _ from H4) wr bj
          obtain ⟨b, off, y, rfl, hbn, h1, h2, hQ, z0, z1, z2, z3⟩ := pss_get t4 hu
          obtain ⟨b', off', y', rfl, hbn', h1', h2', hQ', v0, v1, v2, v3⟩ := pss_get t4' hu
          obtain ⟨qy, cy, rfl⟩ := hQ.len
          obtain ⟨ty, dy, rfl⟩ := hQ'.len
          have bA : Below wr.heap.size wr (wr.alloc (.cells #[.int .i64 u.kind, .int .i64 u.a, .int .i64 u.b, .slice qy u.list.length cy] 47)) := (Below.refl _ _).alloc (Nat.le_refl _) _
          have kA : Blk (wr.alloc (.cells #[.int .i64 u.kind, .int .i64 u.a, .int .i64 u.b, .slice qy u.list.length cy] 47)) wr.heap.size 47 [.int .i64 u.kind, .int .i64 u.a, .int .i64 u.b, .slice qy u.list.length cy] := Blk.new wr 47 _
          have hwr := bj.size
          have hbnr : b' < wr.heap.size := by omega
          have HQ : Hid (∀ X, Below wr.heap.size wr X → SelsE d X.heap.size X (.slice qy u.list.length cy) u.list ∧ SelsE d X.heap.size X (.slice ty u.list.length dy) u.list) := fun X hX => ⟨((hQ.mono d hwr).below d hX).mono d hX.size, ((hQ'.mono d hwr).below d hX).mono d hX.size⟩
          have bA2 : Below wr.heap.size wr ((wr.alloc (.cells #[.int .i64 u.kind, .int .i64 u.a, .int .i64 u.b, .slice qy u.list.length cy] 47)).alloc (.cells #[.int .i64 u.kind, .int .i64 u.a, .int .i64 u.b, .slice ty u.list.length dy] 47)) := bA.alloc bA.size _
          have kB : Blk ((wr.alloc (.cells #[.int .i64 u.kind, .int .i64 u.a, .int .i64 u.b, .slice qy u.list.length cy] 47)).alloc (.cells #[.int .i64 u.kind, .int .i64 u.a, .int .i64 u.b, .slice ty u.list.length dy] 47)) (wr.heap.size + 1) 47 [.int .i64 u.kind, .int .i64 u.a, .int .i64 u.b, .slice ty u.list.length dy] := by
            have := Blk.new (wr.alloc (.cells #[.int .i64 u.kind, .int .i64 u.a, .int .i64 u.b, .slice qy u.list.length cy] 47)) 47 [.int .i64 u.kind, .int .i64 u.a, .int .i64 u.b, .slice ty u.list.length dy]
            rwa [World.size_alloc] at this
          have kA2 : Blk ((wr.alloc (.cells #[.int .i64 u.kind, .int .i64 u.a, .int .i64 u.b, .slice qy u.list.length cy] 47)).alloc (.cells #[.int .i64 u.kind, .int .i64 u.a, .int .i64 u.b, .slice ty u.list.length dy] 47)) wr.heap.size 47 [.int .i64 u.kind, .int .i64 u.a, .int .i64 u.b, .slice qy u.list.length cy] := kA.kept (World.grownBy_alloc _ _ none) (by simp)
          have w0 := (bA.cell (p := ⟨b', _, none⟩) hbnr).trans v0
          have w1 := (bA.cell (p := ⟨b', _, none⟩) hbnr).trans v1
          have w2 := (bA.cell (p := ⟨b', _, none⟩) hbnr).trans v2
          have w3 := (bA.cell (p := ⟨b', _, none⟩) hbnr).trans v3
          have k1A := k1.below bA k1.lt
          obtain ⟨⟨_, _, _, _, y4⟩, _⟩ := blk5 k1A
          have k0B := k0.below bA2 k0.lt
          have k1B := k1.below bA2 k1.lt
          have bjB := bj.trans (bA2.mono hwr)
          have HBA : Hid (Below wr.heap.size wr ((wr.alloc (.cells #[.int .i64 u.kind, .int .i64 u.a, .int .i64 u.b, .slice qy u.list.length cy] 47)).alloc (.cells #[.int .i64 u.kind, .int .i64 u.a, .int .i64 u.b, .slice ty u.list.length dy] 47))) := bA2
          clear hu t4 t4' hQ hQ' v0 v1 v2 v3 bA kA k0 k1 k1A bj bA2
          go_upto_region 13 with fail
          clear w0 w1 w2 w3 z0 z1 z2 z3 x4 y4
          generalize (wr.alloc (.cells #[.int .i64 u.kind, .int .i64 u.a, .int .i64 u.b, .slice qy u.list.length cy] 47)).alloc (.cells #[.int .i64 u.kind, .int .i64 u.a, .int .i64 u.b, .slice ty u.list.length dy] 47) = W4 at *
          obtain ⟨⟨f0, f1, f2, f3⟩, _⟩ := blk4 kA2
          obtain ⟨⟨g0, g1, g2, g3⟩, _⟩ := blk4 kB
          have hsame := (show SameOK d from HS) _ _ u.list W4 ((show ∀ X, _ → _ from HQ) W4 HBA).1 ((show ∀ X, _ → _ from HQ) W4 HBA).2
          go_wp2_with fail
          refine hsame.mono ?_
          clear hsame f0 f1 f2 f3 g0 g1 g2 g3 kA2 kB HQ HBA
          rintro e W5 ⟨rfl, b5⟩
          have k0C := k0B.below b5 k0B.lt
          have k1C := k1B.below b5 k1B.lt
          have bjC := below_next bjB b5
          clear k0B k1B bjB b5
          go_wp2
          exact ⟨⟨m + 1, by go_num, by omega, bjC, k0C, k1C⟩, by simp [intOf]; omega⟩
        · have hmi : ¬ (m : Int) < (q.pss.length : Int) := by omega
          go_wp2
          go_ret
          exact ⟨rfl, bj⟩

set_option maxRecDepth 100000 in
set_option maxHeartbeats 4000000 in
theorem sameSels_next (d : Nat) (hS : SameOK d) : SameOK (d + 1) := by
  intro v v' l w h h'
  obtain ⟨p, cap, rfl⟩ := RowT.len h
  obtain ⟨p', cap', rfl⟩ := RowT.len h'
  have hsh := RowT.short h
  unfold maxLen at hsh
  have HS : Hid (SameOK d) := hS
  have HV : Hid (∀ X, Below w.heap.size w X → SelsE (d + 1) w.heap.size X (.slice p l.length cap) l ∧ SelsE (d + 1) w.heap.size X (.slice p' l.length cap') l) := fun X hX => ⟨SelsE.below (d + 1) h hX, SelsE.below (d + 1) h' hX⟩
  clear h h' hS
  go_enter Tryd.func11, Tryd.ntmps11
  go_wp2
  go_loopw [5] (fun x wr => ∃ k : Nat, x = .int .i64 k ∧ k ≤ l.length ∧ Below w.heap.size w wr) (fun x _ => l.length - (intOf x).toNat)
  case atStart => exact ⟨0, rfl, Nat.zero_le _, Below.refl _ _⟩
  case round =>
    obtain ⟨k, rfl, hk, bw⟩ := hrel
    by_cases hlt : k < l.length
    · have hki : (k : Int) < (l.length : Int) := by omega
      obtain ⟨s, hs⟩ : ∃ s, l[k]? = some s := ⟨_, List.getElem?_eq_getElem hlt⟩
      obtain ⟨t1, t2⟩ := (show ∀ X, _ → _ from HV) wr bw
      obtain ⟨b, off, c, rfl, hbn, h1, h2, _, ⟨x, rfl, hx⟩, hcell⟩ := RowT.get t1 hs
      obtain ⟨b', off', c', rfl, hbn', h1', h2', _, ⟨x', rfl, hx'⟩, hcell'⟩ := RowT.get t2 hs
      have z0 := hcell 0 _ rfl
      have v0 := hcell' 0 _ rfl
      rw [Nat.mul_one, Nat.add_zero] at z0 v0
      obtain ⟨qx, cx, rfl⟩ := RowT.len hx
      obtain ⟨tx, dx, rfl⟩ := RowT.len hx'
      have hss := RowT.short hx
      unfold maxLen at hss
      have hwb := bw.size
      have HX : Hid (∀ X, Below w.heap.size wr X → PtsR (SelsE d w.heap.size X) w.heap.size X (.slice qx s.length cx) s ∧ PtsR (SelsE d w.heap.size X) w.heap.size X (.slice tx s.length dx) s ∧ X.cell? ⟨b, off + k, none⟩ = some (.slice qx s.length cx) ∧ X.cell? ⟨b', off' + k, none⟩ = some (.slice tx s.length dx)) := fun X hX => ⟨hx.below hX (fun _ _ hq => hq.below d hX), hx'.below hX (fun _ _ hq => hq.below d hX), (hX.cell (p := ⟨b, _, none⟩) hbn).trans z0, (hX.cell (p := ⟨b', _, none⟩) hbn').trans v0⟩
      clear hcell hcell' hs t1 t2 hx hx'
      go_wp2
      go_quiet (fail)
      go_wp2_with fail
      have bD : Below w.heap.size wr (wr.drewN nq) := below_drewN' (Below.refl _ _) nq
      have bwD : Below w.heap.size w (wr.drewN nq) := below_drewN' bw nq
      obtain ⟨wo, hwo⟩ : ∃ wo, wo = wr := ⟨_, rfl⟩
      subst hwo
      clear z0 v0
      generalize wo.drewN nq = W1 at *
      go_loopw [6] (fun y wr => ∃ j : Nat, y = .int .i64 j ∧ j ≤ s.length ∧ Below w.heap.size w wr ∧ Below w.heap.size wo wr) (fun y _ => s.length - (intOf y).toNat)
      case atStart => exact ⟨0, rfl, Nat.zero_le _, bwD, bD⟩
      case round =>
        clear bD bwD
        obtain ⟨j, rfl, hj, bj, bo⟩ := hrel
        obtain ⟨ux, ux', z0, v0⟩ := (show ∀ X, _ → _ from HX) wr bo
        by_cases hjl : j < s.length
        · have hji : (j : Int) < (s.length : Int) := by omega
          obtain ⟨pt, hpt⟩ : ∃ pt, s[j]? = some pt := ⟨_, List.getElem?_eq_getElem hjl⟩
          obtain ⟨bb, oo, c, rfl, hbb, m1, m2, _, ⟨c2, rfl, hcp⟩, hcl⟩ := RowT.get ux hpt
          obtain ⟨bb', oo', c', rfl, hbb', m1', m2', _, ⟨c2', rfl, hcp'⟩, hcl'⟩ := RowT.get ux' hpt
          obtain ⟨vi, vk, va, vp, rfl, n1, n2, n3, n4⟩ := hcp
          obtain ⟨vi', vk', va', vp', rfl, n1', n2', n3', n4'⟩ := hcp'
          obtain ⟨qi, ci, rfl⟩ := n1.len
          obtain ⟨qk, ck, rfl⟩ := n2.len
          obtain ⟨qa, ca, rfl⟩ := n3.len
          obtain ⟨qp, cp, rfl⟩ := n4.len
          obtain ⟨ti, di, rfl⟩ := n1'.len
          obtain ⟨tk, dk, rfl⟩ := n2'.len
          obtain ⟨ta, da, rfl⟩ := n3'.len
          obtain ⟨tp, dp, rfl⟩ := n4'.len
          have hcpA : CpC (SelsE d w.heap.size wr) w.heap.size wr [.string pt.2.tag, .slice qi pt.2.ids.length ci, .slice qk pt.2.classes.length ck, .slice qa pt.2.attrs.length ca, .slice qp pt.2.pss.length cp] pt.2 := ⟨_, _, _, _, rfl, n1, n2, n3, n4⟩
          have hcpB : CpC (SelsE d w.heap.size wr) w.heap.size wr [.string pt.2.tag, .slice ti pt.2.ids.length di, .slice tk pt.2.classes.length dk, .slice ta pt.2.attrs.length da, .slice tp pt.2.pss.length dp] pt.2 := ⟨_, _, _, _, rfl, n1', n2', n3', n4'⟩
          have q0 : Below wr.heap.size wr wr.drew := below_drew (Below.refl _ _)
          have hwr := bj.size
          have hcall := sameCp_yes d HS pt.2 _ _ _ _ _ _ _ _ wr.drew ((hcpA.mono hwr (fun _ _ hq => hq.mono d hwr)).next q0) ((hcpB.mono hwr (fun _ _ hq => hq.mono d hwr)).next q0)
          replace hcall : Hid (Calls _ _ _ _ _) := hcall
          have HeldS : (fun X : World => X.cell? ⟨b, off + k, none⟩ = some (.slice (some ⟨bb, oo, none⟩) s.length cx) ∧ X.cell? ⟨b', off' + k, none⟩ = some (.slice (some ⟨bb', oo', none⟩) s.length dx) ∧ X.cell? ⟨bb, oo + j * 6, none⟩ = some (.int .i64 pt.1) ∧ X.cell? ⟨bb, oo + j * 6 + 1, none⟩ = some (.string pt.2.tag) ∧ X.cell? ⟨bb, oo + j * 6 + 2, none⟩ = some (.slice qi pt.2.ids.length ci) ∧ X.cell? ⟨bb, oo + j * 6 + 3, none⟩ = some (.slice qk pt.2.classes.length ck) ∧ X.cell? ⟨bb, oo + j * 6 + 4, none⟩ = some (.slice qa pt.2.attrs.length ca) ∧ X.cell? ⟨bb, oo + j * 6 + 5, none⟩ = some (.slice qp pt.2.pss.length cp) ∧ X.cell? ⟨bb', oo' + j * 6, none⟩ = some (.int .i64 pt.1) ∧ X.cell? ⟨bb', oo' + j * 6 + 1, none⟩ = some (.string pt.2.tag) ∧ X.cell? ⟨bb', oo' + j * 6 + 2, none⟩ = some (.slice ti pt.2.ids.length di) ∧ X.cell? ⟨bb', oo' + j * 6 + 3, none⟩ = some (.slice tk pt.2.classes.length dk) ∧ X.cell? ⟨bb', oo' + j * 6 + 4, none⟩ = some (.slice ta pt.2.attrs.length da) ∧ X.cell? ⟨bb', oo' + j * 6 + 5, none⟩ = some (.slice tp pt.2.pss.length dp)) wr.drew := ⟨z0, v0, hcl 0 _ rfl, hcl 1 _ rfl, hcl 2 _ rfl, hcl 3 _ rfl, hcl 4 _ rfl, hcl 5 _ rfl, hcl' 0 _ rfl, hcl' 1 _ rfl, hcl' 2 _ rfl, hcl' 3 _ rfl, hcl' 4 _ rfl, hcl' 5 _ rfl⟩
          unfold maxLen at h2 h2' m2 m2'
          go_upto_region 11 with fail
          clear hpt hcl hcl' ux ux' n1 n2 n3 n4 n1' n2' n3' n4' hcpA hcpB z0 v0
          refine Rg.wpD_begin [0, 1, 2, 3, 4, 5, 6, 7, 8, 9, 10, 11, 12, 13, 14, 15, 16, 17, 18, 19, 20, 21, 22, 23, 24, 25, 26, 27, 28, 29, 30, 31, 32, 33, 34, 35, 36, 37] (fun X => X.cell? ⟨b, off + k, none⟩ = some (.slice (some ⟨bb, oo, none⟩) s.length cx) ∧ X.cell? ⟨b', off' + k, none⟩ = some (.slice (some ⟨bb', oo', none⟩) s.length dx) ∧ X.cell? ⟨bb, oo + j * 6, none⟩ = some (.int .i64 pt.1) ∧ X.cell? ⟨bb, oo + j * 6 + 1, none⟩ = some (.string pt.2.tag) ∧ X.cell? ⟨bb, oo + j * 6 + 2, none⟩ = some (.slice qi pt.2.ids.length ci) ∧ X.cell? ⟨bb, oo + j * 6 + 3, none⟩ = some (.slice qk pt.2.classes.length ck) ∧ X.cell? ⟨bb, oo + j * 6 + 4, none⟩ = some (.slice qa pt.2.attrs.length ca) ∧ X.cell? ⟨bb, oo + j * 6 + 5, none⟩ = some (.slice qp pt.2.pss.length cp) ∧ X.cell? ⟨bb', oo' + j * 6, none⟩ = some (.int .i64 pt.1) ∧ X.cell? ⟨bb', oo' + j * 6 + 1, none⟩ = some (.string pt.2.tag) ∧ X.cell? ⟨bb', oo' + j * 6 + 2, none⟩ = some (.slice ti pt.2.ids.length di) ∧ X.cell? ⟨bb', oo' + j * 6 + 3, none⟩ = some (.slice tk pt.2.classes.length dk) ∧ X.cell? ⟨bb', oo' + j * 6 + 4, none⟩ = some (.slice ta pt.2.attrs.length da) ∧ X.cell? ⟨bb', oo' + j * 6 + 5, none⟩ = some (.slice tp pt.2.pss.length dp)) (by kernel_rfl) ?_
          simp only at HeldS
          refine Rg.wpD_load 0 (v := ?_) (by simp only [List.getElem?_toArray, List.getElem?_cons_zero]; rfl) (by kernel_rfl) (by kernel_rfl) (by intro _ _ _ h; exact h) HeldS (by rfl) (fun wz hz => ?_) ?_
          rotate_left
          · first | (go_simp; done) | (go_simp; with_reducible rfl)
          simp only [Act.put, List.setIfInBounds_toArray, List.set_cons_succ, List.set_cons_zero]
          refine Rg.wpD_load 1 (v := ?_) (by simp only [List.getElem?_toArray, List.getElem?_cons_succ, List.getElem?_cons_zero]; rfl) (by kernel_rfl) (by kernel_rfl) (by intro _ _ _ h; exact h) HeldS (by rfl) (fun wz hz => ?_) ?_
          rotate_left
          · first | (go_simp; done) | (go_simp; with_reducible rfl)
          simp only [Act.put, List.setIfInBounds_toArray, List.set_cons_succ, List.set_cons_zero]
          refine Rg.wpD_load 2 (v := ?_) (by simp only [List.getElem?_toArray, List.getElem?_cons_succ, List.getElem?_cons_zero]; rfl) (by kernel_rfl) (by kernel_rfl) (by intro _ _ _ h; exact h) HeldS (by rfl) (fun wz hz => ?_) ?_
          rotate_left
          · first | (go_simp; done) | (go_simp; with_reducible rfl)
          simp only [Act.put, List.setIfInBounds_toArray, List.set_cons_succ, List.set_cons_zero]
          refine Rg.wpD_load 3 (v := ?_) (by simp only [List.getElem?_toArray, List.getElem?_cons_succ, List.getElem?_cons_zero]; rfl) (by kernel_rfl) (by kernel_rfl) (by intro _ _ _ h; exact h) HeldS (by rfl) (fun wz hz => ?_) ?_
          rotate_left
          · first | (go_simp; done) | (go_simp; with_reducible rfl)
          simp only [Act.put, List.setIfInBounds_toArray, List.set_cons_succ, List.set_cons_zero]
          refine Rg.wpD_load 4 (v := ?_) (by simp only [List.getElem?_toArray, List.getElem?_cons_succ, List.getElem?_cons_zero]; rfl) (by kernel_rfl) (by kernel_rfl) (by intro _ _ _ h; exact h) HeldS (by rfl) (fun wz hz => ?_) ?_
          rotate_left
          · first | (go_simp; done) | (go_simp; with_reducible rfl)
          simp only [Act.put, List.setIfInBounds_toArray, List.set_cons_succ, List.set_cons_zero]
          refine Rg.wpD_load 5 (v := ?_) (by simp only [List.getElem?_toArray, List.getElem?_cons_succ, List.getElem?_cons_zero]; rfl) (by kernel_rfl) (by kernel_rfl) (by intro _ _ _ h; exact h) HeldS (by rfl) (fun wz hz => ?_) ?_
          rotate_left
          · first | (go_simp; done) | (go_simp; with_reducible rfl)
          simp only [Act.put, List.setIfInBounds_toArray, List.set_cons_succ, List.set_cons_zero]
          refine Rg.wpD_load 6 (v := ?_) (by simp only [List.getElem?_toArray, List.getElem?_cons_succ, List.getElem?_cons_zero]; rfl) (by kernel_rfl) (by kernel_rfl) (by intro _ _ _ h; exact h) HeldS (by rfl) (fun wz hz => ?_) ?_
          rotate_left
          · first | (go_simp; done) | (go_simp; with_reducible rfl)
          simp only [Act.put, List.setIfInBounds_toArray, List.set_cons_succ, List.set_cons_zero]
          refine Rg.wpD_load 7 (v := ?_) (by simp only [List.getElem?_toArray, List.getElem?_cons_succ, List.getElem?_cons_zero]; rfl) (by kernel_rfl) (by kernel_rfl) (by intro _ _ _ h; exact h) HeldS (by rfl) (fun wz hz => ?_) ?_
          rotate_left
          · first | (go_simp; done) | (go_simp; with_reducible rfl)
          simp only [Act.put, List.setIfInBounds_toArray, List.set_cons_succ, List.set_cons_zero]
          refine Rg.wpD_load 8 (v := ?_) (by simp only [List.getElem?_toArray, List.getElem?_cons_succ, List.getElem?_cons_zero]; rfl) (by kernel_rfl) (by kernel_rfl) (by intro _ _ _ h; exact h) HeldS (by rfl) (fun wz hz => ?_) ?_
          rotate_left
          · first | (go_simp; done) | (go_simp; with_reducible rfl)
          simp only [Act.put, List.setIfInBounds_toArray, List.set_cons_succ, List.set_cons_zero]
          refine Rg.wpD_load 9 (v := ?_) (by simp only [List.getElem?_toArray, List.getElem?_cons_succ, List.getElem?_cons_zero]; rfl) (by kernel_rfl) (by kernel_rfl) (by intro _ _ _ h; exact h) HeldS (by rfl) (fun wz hz => ?_) ?_
          rotate_left
          · first | (go_simp; done) | (go_simp; with_reducible rfl)
          simp only [Act.put, List.setIfInBounds_toArray, List.set_cons_succ, List.set_cons_zero]
          refine Rg.wpD_load 10 (v := ?_) (by simp only [List.getElem?_toArray, List.getElem?_cons_succ, List.getElem?_cons_zero]; rfl) (by kernel_rfl) (by kernel_rfl) (by intro _ _ _ h; exact h) HeldS (by rfl) (fun wz hz => ?_) ?_
          rotate_left
          · first | (go_simp; done) | (go_simp; with_reducible rfl)
          simp only [Act.put, List.setIfInBounds_toArray, List.set_cons_succ, List.set_cons_zero]
          refine Rg.wpD_load 11 (v := ?_) (by simp only [List.getElem?_toArray, List.getElem?_cons_succ, List.getElem?_cons_zero]; rfl) (by kernel_rfl) (by kernel_rfl) (by intro _ _ _ h; exact h) HeldS (by rfl) (fun wz hz => ?_) ?_
          rotate_left
          · first | (go_simp; done) | (go_simp; with_reducible rfl)
          simp only [Act.put, List.setIfInBounds_toArray, List.set_cons_succ, List.set_cons_zero]
          refine Rg.wpD_load 12 (v := ?_) (by simp only [List.getElem?_toArray, List.getElem?_cons_succ, List.getElem?_cons_zero]; rfl) (by kernel_rfl) (by kernel_rfl) (by intro _ _ _ h; exact h) HeldS (by rfl) (fun wz hz => ?_) ?_
          rotate_left
          · first | (go_simp; done) | (go_simp; with_reducible rfl)
          simp only [Act.put, List.setIfInBounds_toArray, List.set_cons_succ, List.set_cons_zero]
          refine Rg.wpD_load 13 (v := ?_) (by simp only [List.getElem?_toArray, List.getElem?_cons_succ, List.getElem?_cons_zero]; rfl) (by kernel_rfl) (by kernel_rfl) (by intro _ _ _ h; exact h) HeldS (by rfl) (fun wz hz => ?_) ?_
          rotate_left
          · first | (go_simp; done) | (go_simp; with_reducible rfl)
          simp only [Act.put, List.setIfInBounds_toArray, List.set_cons_succ, List.set_cons_zero]
          refine Rg.wpD_load 14 (v := ?_) (by simp only [List.getElem?_toArray, List.getElem?_cons_succ, List.getElem?_cons_zero]; rfl) (by kernel_rfl) (by kernel_rfl) (by intro _ _ _ h; exact h) HeldS (by rfl) (fun wz hz => ?_) ?_
          rotate_left
          · first | (go_simp; done) | (go_simp; with_reducible rfl)
          simp only [Act.put, List.setIfInBounds_toArray, List.set_cons_succ, List.set_cons_zero]
          refine Rg.wpD_load 15 (v := ?_) (by simp only [List.getElem?_toArray, List.getElem?_cons_succ, List.getElem?_cons_zero]; rfl) (by kernel_rfl) (by kernel_rfl) (by intro _ _ _ h; exact h) HeldS (by rfl) (fun wz hz => ?_) ?_
          rotate_left
          · first | (go_simp; done) | (go_simp; with_reducible rfl)
          simp only [Act.put, List.setIfInBounds_toArray, List.set_cons_succ, List.set_cons_zero]
          refine Rg.wpD_load 16 (v := ?_) (by simp only [List.getElem?_toArray, List.getElem?_cons_succ, List.getElem?_cons_zero]; rfl) (by kernel_rfl) (by kernel_rfl) (by intro _ _ _ h; exact h) HeldS (by rfl) (fun wz hz => ?_) ?_
          rotate_left
          · first | (go_simp; done) | (go_simp; with_reducible rfl)
          simp only [Act.put, List.setIfInBounds_toArray, List.set_cons_succ, List.set_cons_zero]
          refine Rg.wpD_load 17 (v := ?_) (by simp only [List.getElem?_toArray, List.getElem?_cons_succ, List.getElem?_cons_zero]; rfl) (by kernel_rfl) (by kernel_rfl) (by intro _ _ _ h; exact h) HeldS (by rfl) (fun wz hz => ?_) ?_
          rotate_left
          · first | (go_simp; done) | (go_simp; with_reducible rfl)
          simp only [Act.put, List.setIfInBounds_toArray, List.set_cons_succ, List.set_cons_zero]
          refine Rg.wpD_load 18 (v := ?_) (by simp only [List.getElem?_toArray, List.getElem?_cons_succ, List.getElem?_cons_zero]; rfl) (by kernel_rfl) (by kernel_rfl) (by intro _ _ _ h; exact h) HeldS (by rfl) (fun wz hz => ?_) ?_
          rotate_left
          · first | (go_simp; done) | (go_simp; with_reducible rfl)
          simp only [Act.put, List.setIfInBounds_toArray, List.set_cons_succ, List.set_cons_zero]
          refine Rg.wpD_load 19 (v := ?_) (by simp only [List.getElem?_toArray, List.getElem?_cons_succ, List.getElem?_cons_zero]; rfl) (by kernel_rfl) (by kernel_rfl) (by intro _ _ _ h; exact h) HeldS (by rfl) (fun wz hz => ?_) ?_
          rotate_left
          · first | (go_simp; done) | (go_simp; with_reducible rfl)
          simp only [Act.put, List.setIfInBounds_toArray, List.set_cons_succ, List.set_cons_zero]
          refine Rg.wpD_load 20 (v := ?_) (by simp only [List.getElem?_toArray, List.getElem?_cons_succ, List.getElem?_cons_zero]; rfl) (by kernel_rfl) (by kernel_rfl) (by intro _ _ _ h; exact h) HeldS (by rfl) (fun wz hz => ?_) ?_
          rotate_left
          · first | (go_simp; done) | (go_simp; with_reducible rfl)
          simp only [Act.put, List.setIfInBounds_toArray, List.set_cons_succ, List.set_cons_zero]
          refine Rg.wpD_load 21 (v := ?_) (by simp only [List.getElem?_toArray, List.getElem?_cons_succ, List.getElem?_cons_zero]; rfl) (by kernel_rfl) (by kernel_rfl) (by intro _ _ _ h; exact h) HeldS (by rfl) (fun wz hz => ?_) ?_
          rotate_left
          · first | (go_simp; done) | (go_simp; with_reducible rfl)
          simp only [Act.put, List.setIfInBounds_toArray, List.set_cons_succ, List.set_cons_zero]
          refine Rg.wpD_load 22 (v := ?_) (by simp only [List.getElem?_toArray, List.getElem?_cons_succ, List.getElem?_cons_zero]; rfl) (by kernel_rfl) (by kernel_rfl) (by intro _ _ _ h; exact h) HeldS (by rfl) (fun wz hz => ?_) ?_
          rotate_left
          · first | (go_simp; done) | (go_simp; with_reducible rfl)
          simp only [Act.put, List.setIfInBounds_toArray, List.set_cons_succ, List.set_cons_zero]
          refine Rg.wpD_load 23 (v := ?_) (by simp only [List.getElem?_toArray, List.getElem?_cons_succ, List.getElem?_cons_zero]; rfl) (by kernel_rfl) (by kernel_rfl) (by intro _ _ _ h; exact h) HeldS (by rfl) (fun wz hz => ?_) ?_
          rotate_left
          · first | (go_simp; done) | (go_simp; with_reducible rfl)
          simp only [Act.put, List.setIfInBounds_toArray, List.set_cons_succ, List.set_cons_zero]
          refine Rg.wpD_load 24 (v := ?_) (by simp only [List.getElem?_toArray, List.getElem?_cons_succ, List.getElem?_cons_zero]; rfl) (by kernel_rfl) (by kernel_rfl) (by intro _ _ _ h; exact h) HeldS (by rfl) (fun wz hz => ?_) ?_
          rotate_left
          · first | (go_simp; done) | (go_simp; with_reducible rfl)
          simp only [Act.put, List.setIfInBounds_toArray, List.set_cons_succ, List.set_cons_zero]
          refine Rg.wpD_load 25 (v := ?_) (by simp only [List.getElem?_toArray, List.getElem?_cons_succ, List.getElem?_cons_zero]; rfl) (by kernel_rfl) (by kernel_rfl) (by intro _ _ _ h; exact h) HeldS (by rfl) (fun wz hz => ?_) ?_
          rotate_left
          · first | (go_simp; done) | (go_simp; with_reducible rfl)
          simp only [Act.put, List.setIfInBounds_toArray, List.set_cons_succ, List.set_cons_zero]
          refine Rg.wpD_load 26 (v := ?_) (by simp only [List.getElem?_toArray, List.getElem?_cons_succ, List.getElem?_cons_zero]; rfl) (by kernel_rfl) (by kernel_rfl) (by intro _ _ _ h; exact h) HeldS (by rfl) (fun wz hz => ?_) ?_
          rotate_left
          · first | (go_simp; done) | (go_simp; with_reducible rfl)
          simp only [Act.put, List.setIfInBounds_toArray, List.set_cons_succ, List.set_cons_zero]
          refine Rg.wpD_load 27 (v := ?_) (by simp only [List.getElem?_toArray, List.getElem?_cons_succ, List.getElem?_cons_zero]; rfl) (by kernel_rfl) (by kernel_rfl) (by intro _ _ _ h; exact h) HeldS (by rfl) (fun wz hz => ?_) ?_
          rotate_left
          · first | (go_simp; done) | (go_simp; with_reducible rfl)
          simp only [Act.put, List.setIfInBounds_toArray, List.set_cons_succ, List.set_cons_zero]
          refine Rg.wpD_load 28 (v := ?_) (by simp only [List.getElem?_toArray, List.getElem?_cons_succ, List.getElem?_cons_zero]; rfl) (by kernel_rfl) (by kernel_rfl) (by intro _ _ _ h; exact h) HeldS (by rfl) (fun wz hz => ?_) ?_
          rotate_left
          · first | (go_simp; done) | (go_simp; with_reducible rfl)
          simp only [Act.put, List.setIfInBounds_toArray, List.set_cons_succ, List.set_cons_zero]
          refine Rg.wpD_load 29 (v := ?_) (by simp only [List.getElem?_toArray, List.getElem?_cons_succ, List.getElem?_cons_zero]; rfl) (by kernel_rfl) (by kernel_rfl) (by intro _ _ _ h; exact h) HeldS (by rfl) (fun wz hz => ?_) ?_
          rotate_left
          · first | (go_simp; done) | (go_simp; with_reducible rfl)
          simp only [Act.put, List.setIfInBounds_toArray, List.set_cons_succ, List.set_cons_zero]
          refine Rg.wpD_load 30 (v := ?_) (by simp only [List.getElem?_toArray, List.getElem?_cons_succ, List.getElem?_cons_zero]; rfl) (by kernel_rfl) (by kernel_rfl) (by intro _ _ _ h; exact h) HeldS (by rfl) (fun wz hz => ?_) ?_
          rotate_left
          · first | (go_simp; done) | (go_simp; with_reducible rfl)
          simp only [Act.put, List.setIfInBounds_toArray, List.set_cons_succ, List.set_cons_zero]
          refine Rg.wpD_load 31 (v := ?_) (by simp only [List.getElem?_toArray, List.getElem?_cons_succ, List.getElem?_cons_zero]; rfl) (by kernel_rfl) (by kernel_rfl) (by intro _ _ _ h; exact h) HeldS (by rfl) (fun wz hz => ?_) ?_
          rotate_left
          · first | (go_simp; done) | (go_simp; with_reducible rfl)
          simp only [Act.put, List.setIfInBounds_toArray, List.set_cons_succ, List.set_cons_zero]
          refine Rg.wpD_load 32 (v := ?_) (by simp only [List.getElem?_toArray, List.getElem?_cons_succ, List.getElem?_cons_zero]; rfl) (by kernel_rfl) (by kernel_rfl) (by intro _ _ _ h; exact h) HeldS (by rfl) (fun wz hz => ?_) ?_
          rotate_left
          · first | (go_simp; done) | (go_simp; with_reducible rfl)
          simp only [Act.put, List.setIfInBounds_toArray, List.set_cons_succ, List.set_cons_zero]
          refine Rg.wpD_load 33 (v := ?_) (by simp only [List.getElem?_toArray, List.getElem?_cons_succ, List.getElem?_cons_zero]; rfl) (by kernel_rfl) (by kernel_rfl) (by intro _ _ _ h; exact h) HeldS (by rfl) (fun wz hz => ?_) ?_
          rotate_left
          · first | (go_simp; done) | (go_simp; with_reducible rfl)
          simp only [Act.put, List.setIfInBounds_toArray, List.set_cons_succ, List.set_cons_zero]
          refine Rg.wpD_load 34 (v := ?_) (by simp only [List.getElem?_toArray, List.getElem?_cons_succ, List.getElem?_cons_zero]; rfl) (by kernel_rfl) (by kernel_rfl) (by intro _ _ _ h; exact h) HeldS (by rfl) (fun wz hz => ?_) ?_
          rotate_left
          · first | (go_simp; done) | (go_simp; with_reducible rfl)
          simp only [Act.put, List.setIfInBounds_toArray, List.set_cons_succ, List.set_cons_zero]
          refine Rg.wpD_load 35 (v := ?_) (by simp only [List.getElem?_toArray, List.getElem?_cons_succ, List.getElem?_cons_zero]; rfl) (by kernel_rfl) (by kernel_rfl) (by intro _ _ _ h; exact h) HeldS (by rfl) (fun wz hz => ?_) ?_
          rotate_left
          · first | (go_simp; done) | (go_simp; with_reducible rfl)
          simp only [Act.put, List.setIfInBounds_toArray, List.set_cons_succ, List.set_cons_zero]
          refine Rg.wpD_load 36 (v := ?_) (by simp only [List.getElem?_toArray, List.getElem?_cons_succ, List.getElem?_cons_zero]; rfl) (by kernel_rfl) (by kernel_rfl) (by intro _ _ _ h; exact h) HeldS (by rfl) (fun wz hz => ?_) ?_
          rotate_left
          · first | (go_simp; done) | (go_simp; with_reducible rfl)
          simp only [Act.put, List.setIfInBounds_toArray, List.set_cons_succ, List.set_cons_zero]
          refine Rg.wpD_load 37 (v := ?_) (by simp only [List.getElem?_toArray, List.getElem?_cons_succ, List.getElem?_cons_zero]; rfl) (by kernel_rfl) (by kernel_rfl) (by intro _ _ _ h; exact h) HeldS (by rfl) (fun wz hz => ?_) ?_
          rotate_left
          · first | (go_simp; done) | (go_simp; with_reducible rfl)
          simp only [Act.put, List.setIfInBounds_toArray, List.set_cons_succ, List.set_cons_zero]
          refine Rg.wpD_do 38 (by kernel_rfl) (by simp only [List.getElem?_toArray, List.getElem?_cons_succ, List.getElem?_cons_zero]; rfl) (fun K hK => ?_)
          go_simp
          go_at_call 17
          refine Calls.mono (show Calls _ _ _ _ _ from hcall) ?_
          rintro e W5 ⟨rfl, b5⟩
          refine hK _ _ (fun h => absurd h (by decide)) ?_
          clear hK K HeldS hcall
          refine Rg.wpD_pure 39 (v := ?_) (by simp only [List.getElem?_toArray, List.getElem?_cons_succ, List.getElem?_cons_zero]; rfl) (by kernel_rfl) (by kernel_rfl) (by intro _ _ _ h; exact h) (by rfl) (fun wz => ?_) ?_
          rotate_left
          · first | (go_simp; done) | (go_simp; with_reducible rfl)
          simp only [Act.put, List.setIfInBounds_toArray, List.set_cons_succ, List.set_cons_zero]
          refine Rg.wpD_pure 40 (v := ?_) (by simp only [List.getElem?_toArray, List.getElem?_cons_succ, List.getElem?_cons_zero]; rfl) (by kernel_rfl) (by kernel_rfl) (by intro _ _ _ h; exact h) (by rfl) (fun wz => ?_) ?_
          rotate_left
          · first | (go_simp; done) | (go_simp; with_reducible rfl)
          simp only [Act.put, List.setIfInBounds_toArray, List.set_cons_succ, List.set_cons_zero]
          refine Rg.wpD_done (by kernel_rfl) ?_
          have b15 := below_next q0 b5
          have bj5 := below_next bj b15
          have bo5 := bo.trans (b15.mono hwr)
          clear q0 b5 b15 bj bo
          go_wp2
          exact ⟨⟨j + 1, by go_num, by omega, bj5, bo5⟩, by simp [intOf]; omega⟩
        · have hji : ¬ (j : Int) < (s.length : Int) := by omega
          clear ux ux' HX
          go_wp2
          exact ⟨⟨k + 1, by go_num, by omega, bj⟩, by simp [intOf]; omega⟩
    · have hki : ¬ (k : Int) < (l.length : Int) := by omega
      go_wp2
      go_ret
      exact ⟨rfl, bw⟩

set_option maxRecDepth 100000 in
set_option maxHeartbeats 1000000 in
theorem sameSels_zero : SameOK 0 := by
  intro v v' l w h h'
  obtain ⟨rfl, rfl⟩ := h
  obtain ⟨_, rfl⟩ := h'
  go_enter Tryd.func11, Tryd.ntmps11
  go_wp2
  go_loopw [5] (fun x wr => x = .int .i64 0 ∧ wr = w) (fun _ _ => 0)
  case atStart => exact ⟨rfl, rfl⟩
  case round =>
    obtain ⟨rfl, rfl⟩ := hrel
    go_wp2
    go_ret
    exact ⟨rfl, Below.refl _ _⟩
theorem sameSels_all : ∀ d, SameOK d
  | 0 => sameSels_zero
  | d + 1 => sameSels_next d (sameSels_all d)

end Go.Proofs.YtdplmbifhknafaaDoor.Wg
