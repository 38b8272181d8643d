/- The reader of selectors: one unit of a compound. -/
import Derived.Test.YtkhgmobependiaaDoorSlGd
import Derived.Test.YtkhgmobependiaaDoorSlCu
namespace Go.Proofs.YtkhgmobependiaaDoor.Sl
open Go.Proofs.YtkhgmobependiaaDoor.Tre
open Go Go.RowKit Go.Shelf

theorem infoStr3 : (Tryd.prog.info? 9).map (fun i => (i.zero, i.size, i.bytes)) = some (some (.string ⟨#[]⟩), 1, 16) := by kernel_rfl
theorem infoAt3 : (Tryd.prog.info? 87).map (fun i => (i.zero, i.size, i.bytes)) = some (some (.agg #[.string ⟨#[]⟩, .int .i64 0, .string ⟨#[]⟩]), 3, 40) := by kernel_rfl
theorem infoPs3 : (Tryd.prog.info? 26).map (fun i => (i.zero, i.size, i.bytes)) = some (some (.agg #[.int .i64 0, .int .i64 0, .int .i64 0, .slice none 0 0]), 4, 48) := by kernel_rfl
theorem unit_class {L : Inner} {c : Cp} {t : Bt} {ts : List Bt} {a : Nat} (h3 : ¬ t.kind = 3) (h18 : ¬ t.kind = 18) (h11 : ¬ t.kind = 11) : unitV L c t (ts.drop a) = if (at' ts a).kind = 1 then some (c.addClass (at' ts a).text, ts.drop (a + 1)) else none := by
  unfold unitV
  rw [if_neg h3, if_neg h18, if_neg h11]
  by_cases hl : a < ts.length
  · rw [at_cons hl]
  · have hz := at_none (ts := ts) (a := a) (by omega)
    rw [hz.1, hz.2]
    rfl
theorem cells_drew (w : World) (l : List Value) (ty : TypeId) : ∀ j u, l[j]? = some u → (w.alloc (.cells l.toArray ty)).drew.cell? ((⟨w.heap.size, 0, none⟩ : Addr).add j) = some u := fun j u hj => by
  rw [show (⟨w.heap.size, 0, none⟩ : Addr).add j = ⟨w.heap.size, j, none⟩ by cases j with | zero => rfl | succ j => simp [Addr.add]]
  show (w.alloc (.cells l.toArray ty)).cell? _ = _
  rw [cell_of_block (heap_alloc_new w _) j]
  simpa using hj
theorem cells_plain (w : World) (l : List Value) (ty : TypeId) : ∀ j u, l[j]? = some u → (w.alloc (.cells l.toArray ty)).cell? ((⟨w.heap.size, 0, none⟩ : Addr).add j) = some u := cells_drew w l ty
/-- The blocks that one unit leaves alone. -/
def OffU (R C : Nat) (i k a p : Value) (b : Nat) : Prop := b ≠ R ∧ b ≠ C ∧ i.ownBlock ≠ some b ∧ k.ownBlock ≠ some b ∧ a.ownBlock ≠ some b ∧ p.ownBlock ≠ some b
/-- What a unit hands back. -/
def UnitOut (n₀ R : Nat) (v : Value) (ts : List Bt) (d n C : Nat) (i k a' p : Value) (w : World) (V : Option (Cp × List Bt)) (e : Ending) (w' : World) : Prop :=
  ((∃ c' b, V = some (c', ts.drop b) ∧ e = .returned (.bool true) ∧ CU d n w' C c' ∧ Rd n₀ w' R v ts b (8 - (d : Int))) ∨ (V = none ∧ e = .returned (.bool false) ∧ ∃ b, Rd n₀ w' R v ts b (8 - (d : Int)))) ∧ Kept (OffU R C i k a' p) w w'
theorem slot_own {g m c : Nat} {q : Nat} (h : (Value.slice (some ⟨g, 0, none⟩) m c).ownBlock = some q) : q = g := by simpa [Value.ownBlock] using h.symm

set_option maxRecDepth 100000 in
set_option maxHeartbeats 4000000 in
theorem unit_any (n₀ R : Nat) (v : Value) (ts : List Bt) (a : Nat) (d : Nat)
    (w : World) (hP : Rd n₀ w R v ts a (8 - (d : Int))) (hS : OpsAt n₀ w) (hG : Good ts) (hd : d ≤ 8) (hL : ∀ d', d = d' + 1 → ListOK n₀ d') (n C : Nat) (c : Cp) (i k a' p : Value) (hC : CUx d n w C c i k a' p) (hRn : R < n) (t : Bt) (ht : t.text.size ≤ 1000000) (hbd : c.ids.length ≤ 1000 ∧ c.classes.length ≤ 1000 ∧ c.attrs.length ≤ 1000 ∧ c.pss.length ≤ 1000) :
    Calls Tryd.prog 42 #[.pointer (some ⟨R, 0, none⟩), .pointer (some ⟨C, 0, none⟩), tkV t] w (UnitOut n₀ R v ts d n C i k a' p w (unitV (innerV d) c t (ts.drop a))) := by
  have hR := hP.lt
  have hlo := hP.low
  have hnC := hC.nC
  obtain ⟨b0, k0⟩ := tok_new w t
  have hP0 := hP.below b0
  have hC0 := hC.below b0
  have hS0 : OpsAt n₀ _ := hS.kept (Kept.of_below b0) hlo hR
  have hid : t.kind = 3 → unitV (innerV d) c t (ts.drop a) = some (c.addId t.text, ts.drop a) := fun h => by unfold unitV; rw [if_pos h]
  have hat : ¬ t.kind = 3 → t.kind = 18 → unitV (innerV d) c t (ts.drop a) = (attrV (ts.drop a)).map fun x => (c.addAttr x.1, x.2) := fun h h' => by unfold unitV; rw [if_neg h, if_pos h']
  have hps : ¬ t.kind = 3 → ¬ t.kind = 18 → t.kind = 11 → unitV (innerV d) c t (ts.drop a) = (pseudoV (innerV d) (ts.drop a)).map fun x => (c.addPs x.1, x.2) := fun h h' h'' => by unfold unitV; rw [if_neg h, if_neg h', if_pos h'']
  have hcl := unit_class (L := innerV d) (c := c) (t := t) (ts := ts) (a := a)
  obtain ⟨V, hV⟩ : ∃ V, unitV (innerV d) c t (ts.drop a) = V := ⟨_, rfl⟩
  rw [hV] at hid hat hps hcl ⊢
  clear hV
  have HG : Hid (Good ts) := hG
  have HL : Hid (∀ d', d = d' + 1 → ListOK n₀ d') := hL
  clear hG hL
  obtain ⟨Q, hQ⟩ : ∃ Q, UnitOut n₀ R v ts d n C i k a' p w V = Q := ⟨_, rfl⟩
  rw [hQ]
  have HQ : Hid (UnitOut n₀ R v ts d n C i k a' p w V = Q) := hQ
  clear hQ
  unfold tkV
  go_enter Tryd.func42, Tryd.ntmps42
  go_upto_region 1 with fail
  generalize w.alloc (.cells #[.int .i64 t.kind, .string t.text, .int .i64 t.n, .bool t.whole, .int .i64 t.c] 58) = W at *
  obtain ⟨⟨t0, t1, t2, t3, t4⟩, _⟩ := blk5 k0
  have kb0 : Kept (OffU R C i k a' p) w W := .of_below b0
  by_cases g3 : t.kind = 3
  · have hv := hid g3
    rw [g3] at t0
    clear hid hat hps hcl g3 HL
    go_upto_region 3 with fail
    obtain ⟨css, r1, r2, r3, r4⟩ := hC0.ri
    obtain ⟨pq, cq, rfl⟩ := owns_form r1
    obtain ⟨i0, hi, hz0, hz1, hz2⟩ := info_parts infoStr3
    have HK : Hid (∀ (X Y : World) (q : Value), Below W.heap.size W X → X.grownBy Y (Value.slice pq c.ids.length cq).ownBlock → Kept (OffU R C (.slice pq c.ids.length cq) k a' p) w (Y.setCell ⟨C, 1, none⟩ q)) := fun X Y q hX hY => (((kb0.trans (.of_below hX)).grown hY (fun g e => .inr (fun h => h.2.2.1 e))).trans (Kept.setCell Y _ q (fun h => h.2.1 rfl)))
    have HRd : Hid (∀ (b : Nat) (X Y : World) (q : Value), Rd n₀ W R v ts b (8 - (d : Int)) → Below W.heap.size W X → X.grownBy Y (Value.slice pq c.ids.length cq).ownBlock → Rd n₀ (Y.setCell ⟨C, 1, none⟩ q) R v ts b (8 - (d : Int))) := fun b X Y q hr hX hY => ((hr.below hX).kept (keep := fun b => b < n) (Kept.of_grown hY (fun g e h => by have := (hC0.ri.lt e).1; omega)) hRn (fun b hb => by omega)).other (by omega) (by omega) q
    have HR4 : Hid (∀ (X : World) (o : Obj), Below W.heap.size W X → (X.alloc o).ownsRow n 9 1 (.slice pq c.ids.length cq) c.ids.length css.flatten) := fun X o hX => owns_same r1 (fun g hg => (hX.alloc hX.size o).block g (owns_lt r1 hg).2)
    have HC4 : Hid (∀ (X : World), Below W.heap.size W X → CUx d n X C c (.slice pq c.ids.length cq) k a' p) := fun X hX => hC0.below hX
    have H1 : ∀ u ∈ ([.string t.text] : List Value), u.oneCell' = true := fun u hu => by simp at hu; subst hu; rfl
    have m1 : c.ids.length + 1 ≤ maxLen := by unfold maxLen; omega
    have m2 : (c.ids.length + 1) * 16 ≤ 140737488355328 := by omega
    have HB7 : Hid (∀ (X : World) (o : Obj) w7, Below W.heap.size W X → (X.alloc o).grownBy w7 (Value.slice pq c.ids.length cq).ownBlock → Blk w7 C 38 [.string c.tag, .slice pq c.ids.length cq, k, a', p]) := fun X o w7 hX hg => (hC0.below (hX.alloc hX.size o)).blk.kept hg (fun e => (hC0.below (hX.alloc hX.size o)).ri.off (hC0.below (hX.alloc hX.size o)).blk (by decide) e.symm)
    have HSZ : Hid (∀ (X : World) (o : Obj), Below W.heap.size W X → n ≤ (X.alloc o).heap.size) := fun X o hX => by rw [World.size_alloc]; have := hX.size; have := hC0.blk.lt; omega
    have HBL : Hid (∀ (X : World), Below W.heap.size W X → Blk X C 38 [.string c.tag, .slice pq c.ids.length cq, k, a', p]) := fun X hX => (hC0.below hX).blk
    have hq0 : Below W.heap.size W W.drew := below_drew (Below.refl _ _)
    obtain ⟨⟨y0, y1, y2, y3, y4⟩, e0, e1, e2, e3, e4⟩ := blk5 hC0.blk
    go_region_law (first
      | (refine step_append_lies (w := World.alloc _ _) rfl _ _ 34 rfl n 9 i0 (.string ⟨#[]⟩) 1 16 Tryd.underlying34 hi hz0 hz1 hz2 rfl (by decide) (.slice pq c.ids.length cq) _ _ rfl ((show ∀ (X : World) (o : Obj), _ → _ from HR4) _ _ (by assumption)) _ 1 1 [.string t.text] rfl rfl (cells_plain _ [_] _) H1 (by decide) m1 m2 ((show ∀ (X : World) (o : Obj), _ → _ from HSZ) _ _ (by assumption)) _ rfl ?_; intro g7 c7 w7 hown7 hgrow7 hat7 hlt7; obtain ⟨⟨y0, y1, y2, y3, y4⟩, e0, e1, e2, e3, e4⟩ := blk5 ((show ∀ (X : World) (o : Obj) w7, _ → _ → _ from HB7) _ _ w7 (by assumption) hgrow7))
      | (go_simp; go_at_call 52; refine Calls.mono (clone_any _ _ ht) ?_; rintro e wN ⟨rfl, bN⟩; have qN : Below W.heap.size W wN := hq0.trans (bN.mono (Nat.le_refl _)); obtain ⟨⟨_, v1, v2, _, _⟩, _⟩ := blk5 ((show ∀ (X : World), _ → _ from HBL) wN qN); obtain ⟨⟨_, va1, va2, _, _⟩, _⟩ := blk5 ((show ∀ (X : World), _ → _ from HBL) (wN.alloc (.cells #[.string t.text] 9)) (qN.alloc qN.size _))))
    all_goals
      go_wp2
      rw [← (show _ = _ from HQ)]
      refine ⟨?_, (show ∀ (X Y : World) (q : Value), _ → _ → _ from HK) _ _ _ (qN.alloc qN.size _) hgrow7⟩
      have hPz := (show ∀ (b : Nat) (X Y : World) (q : Value), _ → _ → _ → _ from HRd) _ _ _ (.slice (some ⟨g7, 0, none⟩) (c.ids.length + 1) c7) hP0 (qN.alloc qN.size _) hgrow7
      have hC4 := (show ∀ (X : World), _ → _ from HC4) _ (qN.alloc qN.size (.cells #[.string t.text] 9))
      exact .inl ⟨_, a, hv, rfl, ⟨_, _, _, _, hC4.addId (x := t.text) r2 r3 r4 hown7 hgrow7 (fun g hg => by rw [slot_own hg]; exact hat7.imp id (fun h => by rw [h]; exact Nat.le_refl _))⟩, hPz⟩
  by_cases g18 : t.kind = 18
  · have hv := hat g3 g18
    rw [g18] at t0
    clear hid hat hps hcl g3 g18 HL
    have h1 := attribute_any n₀ R v ts a (8 - (d : Int)) W hP0 hS0 HG
    unfold atV at h1
    go_wp2_with fail
    refine h1.mono ?_
    clear h1
    rintro e w1 ⟨hcs, hb1⟩
    have hC1 := hC0.but hb1 hRn
    have kb1 : Kept (OffU R C i k a' p) w w1 := kb0.trans (hb1.mono (fun b _ hb => hb.1))
    clear t0 t1 t2 t3 t4 k0 hC0 kb0 hP0 b0
    have HK : Hid (∀ (X Y : World) (q : Value), Below w1.heap.size w1 X → X.grownBy Y a'.ownBlock → Kept (OffU R C i k a' p) w (Y.setCell ⟨C, 3, none⟩ q)) := fun X Y q hX hY => (((kb1.trans (.of_below hX)).grown hY (fun g e => .inr (fun h => h.2.2.2.2.1 e))).trans (Kept.setCell Y _ q (fun h => h.2.1 rfl)))
    have HRd : Hid (∀ (b : Nat) (X Y : World) (q : Value), Rd n₀ w1 R v ts b (8 - (d : Int)) → Below w1.heap.size w1 X → X.grownBy Y a'.ownBlock → Rd n₀ (Y.setCell ⟨C, 3, none⟩ q) R v ts b (8 - (d : Int))) := fun b X Y q hr hX hY => ((hr.below hX).kept (keep := fun b => b < n) (Kept.of_grown hY (fun g e h => by have := (hC1.ra.lt e).1; omega)) hRn (fun b hb => by omega)).other (by omega) (by omega) q
    obtain ⟨css, r1, r2, r3, r4⟩ := hC1.ra
    obtain ⟨pa, ca, rfl⟩ := owns_form r1
    obtain ⟨i0, hi, hz0, hz1, hz2⟩ := info_parts infoAt3
    obtain ⟨nm, o, tx, ok, b, rfl, hPb, hres⟩ : ∃ (nm : ByteArray) (o : Int) (tx : ByteArray) (ok : Bool) (b : Nat), e = .returned (.tuple #[.agg #[.string nm, .int .i64 o, .string tx], .bool ok]) ∧ Rd n₀ w1 R v ts b (8 - (d : Int)) ∧ Hid ((ok = true ∧ V = some (c.addAttr ⟨nm, o, tx⟩, ts.drop b)) ∨ (ok = false ∧ V = none)) := by
      rcases hcs with ⟨x, b, hx, rfl, hPb⟩ | ⟨hx, ⟨nm, o, tx, rfl⟩, b, hPb⟩
      · exact ⟨x.name, x.op, x.text, true, b, rfl, hPb, .inl ⟨rfl, by rw [hv, hx]; rfl⟩⟩
      · exact ⟨nm, o, tx, false, b, rfl, hPb, .inr ⟨rfl, by rw [hv, hx]; rfl⟩⟩
    clear hcs hv
    have bA : Below w1.heap.size w1 (w1.alloc (.cells #[.string nm, .int .i64 o, .string tx] 87)) := (Below.refl _ _).alloc (Nat.le_refl _) _
    have kA : Blk (w1.alloc (.cells #[.string nm, .int .i64 o, .string tx] 87)) w1.heap.size 87 [.string nm, .int .i64 o, .string tx] := Blk.new w1 87 _
    have hC2 := hC1.below bA
    go_upto_region 7 with fail
    generalize w1.alloc (.cells #[.string nm, .int .i64 o, .string tx] 87) = w2 at *
    have bE : Below w1.heap.size w1 (w2.alloc (.cells #[.string nm, .int .i64 o, .string tx] 87)).drew := below_drew (bA.trans ((((Below.refl _ w2).alloc (Nat.le_refl _) _)).mono bA.size))
    obtain ⟨⟨x0, x1, x2⟩, _⟩ := blk3 kA
    obtain ⟨⟨y0, y1, y2, y3, y4⟩, e0, e1, e2, e3, e4⟩ := blk5 hC2.blk
    have hR4 : (w2.alloc (.cells #[.string nm, .int .i64 o, .string tx] 87)).drew.ownsRow n 87 3 (.slice pa c.attrs.length ca) c.attrs.length css.flatten := owns_same r1 (fun g hg => bE.block g (owns_lt r1 hg).2)
    have hC4 : CUx d n (w2.alloc (.cells #[.string nm, .int .i64 o, .string tx] 87)).drew C c i k (.slice pa c.attrs.length ca) p := hC1.below bE
    have H1 : ∀ u ∈ ([.string nm, .int .i64 o, .string tx] : List Value), u.oneCell' = true := fun u hu => by simp at hu; rcases hu with rfl | rfl | rfl <;> rfl
    have m1 : c.attrs.length + 1 ≤ maxLen := by unfold maxLen; omega
    have m2 : (c.attrs.length + 1) * 40 ≤ 140737488355328 := by omega
    have hbO : n ≤ (w2.alloc (.cells #[.string nm, .int .i64 o, .string tx] 87)).drew.heap.size := by have := hC4.blk.lt; omega
    have HB7 : Hid (∀ w7, (w2.alloc (.cells #[.string nm, .int .i64 o, .string tx] 87)).drew.grownBy w7 (Value.slice pa c.attrs.length ca).ownBlock → Blk w7 C 38 [.string c.tag, i, k, .slice pa c.attrs.length ca, p]) := fun w7 hg => hC4.blk.kept hg (fun e => hC4.ra.off hC4.blk (by decide) e.symm)
    have HC : ∀ j u, ([.string nm, .int .i64 o, .string tx] : List Value)[j]? = some u → (w2.alloc (.cells #[.string nm, .int .i64 o, .string tx] 87)).drew.cell? ((⟨w2.heap.size, 0, none⟩ : Addr).add j) = some u := cells_drew w2 [.string nm, .int .i64 o, .string tx] 87
    obtain ⟨⟨_, _, _, yy3, _⟩, _⟩ := blk5 (show Blk (w2.alloc (.cells #[.string nm, .int .i64 o, .string tx] 87)) C 38 [.string c.tag, i, k, .slice pa c.attrs.length ca, p] from hC4.blk)
    clear hC1 hC2 kA kb1 hb1 bA
    go_region_law (refine step_append_lies (w := (w2.alloc (.cells #[.string nm, .int .i64 o, .string tx] 87)).drew) rfl _ _ 35 rfl n 87 i0 (.agg #[.string ⟨#[]⟩, .int .i64 0, .string ⟨#[]⟩]) 3 40 Tryd.underlying35 hi hz0 hz1 hz2 rfl (by decide) (.slice pa c.attrs.length ca) _ _ rfl hR4 ⟨w2.heap.size, 0, none⟩ 1 1 [.string nm, .int .i64 o, .string tx] rfl rfl HC H1 (by decide) m1 m2 hbO _ rfl ?_; intro g7 c7 w7 hown7 hgrow7 hat7 hlt7; obtain ⟨⟨y0, y1, y2, y3, y4⟩, e0, e1, e2, e3, e4⟩ := blk5 ((show ∀ w7, _ → _ from HB7) w7 hgrow7))
    all_goals
      go_wp2
      rw [← (show _ = _ from HQ)]
      refine ⟨?_, (show ∀ (X Y : World) (q : Value), _ → _ → _ from HK) _ _ _ bE hgrow7⟩
      have hPz := (show ∀ (b : Nat) (X Y : World) (q : Value), _ → _ → _ → _ from HRd) b _ _ (.slice (some ⟨g7, 0, none⟩) (c.attrs.length + 1) c7) hPb bE hgrow7
      rcases (show _ ∨ _ from hres) with ⟨rfl, hv⟩ | ⟨rfl, hv⟩
      · exact .inl ⟨_, b, hv, rfl, ⟨_, _, _, _, hC4.addAttr (x := ⟨nm, o, tx⟩) r2 r3 r4 hown7 hgrow7 (fun g hg => by rw [slot_own hg]; exact hat7.imp id (fun h => by rw [h]; exact Nat.le_refl _))⟩, hPz⟩
      · exact .inr ⟨hv, rfl, b, hPz⟩
  by_cases g11 : t.kind = 11
  · have hv := hps g3 g18 g11
    rw [g11] at t0
    clear hid hat hps hcl g3 g18 g11
    have h1 := pseudo_any n₀ R v ts a d W hP0 hS0 HG hd HL
    clear HL
    unfold PsOut psV at h1
    go_wp2_with fail
    refine h1.mono ?_
    clear h1
    rintro e w1 ⟨hcs, hb1⟩
    have hC1 := hC0.but hb1 hRn
    have kb1 : Kept (OffU R C i k a' p) w w1 := kb0.trans (hb1.mono (fun b _ hb => hb.1))
    clear t0 t1 t2 t3 t4 k0 kb0 hP0 b0
    have HK : Hid (∀ (X Y : World) (q : Value), Below w1.heap.size w1 X → X.grownBy Y p.ownBlock → Kept (OffU R C i k a' p) w (Y.setCell ⟨C, 4, none⟩ q)) := fun X Y q hX hY => (((kb1.trans (.of_below hX)).grown hY (fun g e => .inr (fun h => h.2.2.2.2.2 e))).trans (Kept.setCell Y _ q (fun h => h.2.1 rfl)))
    have HRd : Hid (∀ (b : Nat) (X Y : World) (q : Value), Rd n₀ w1 R v ts b (8 - (d : Int)) → Below w1.heap.size w1 X → X.grownBy Y p.ownBlock → Rd n₀ (Y.setCell ⟨C, 4, none⟩ q) R v ts b (8 - (d : Int))) := fun b X Y q hr hX hY => ((hr.below hX).kept (keep := fun b => b < n) (Kept.of_grown hY (fun g e h => by have := (hC1.rp.lt e).1; omega)) hRn (fun b hb => by omega)).other (by omega) (by omega) q
    obtain ⟨css, r1, r2, r3, r4⟩ := hC1.rp
    obtain ⟨pp, cp, rfl⟩ := owns_form r1
    obtain ⟨i0, hi, hz0, hz1, hz2⟩ := info_parts infoPs3
    have hbl : ∀ g, (i.ownBlock = some g ∨ k.ownBlock = some g ∨ a'.ownBlock = some g ∨ (Value.slice pp c.pss.length cp).ownBlock = some g) → g < W.heap.size := fun g h => by
      rcases h with h | h | h | h
      · exact (hC0.ri.lt h).2
      · exact (hC0.rk.lt h).2
      · exact (hC0.ra.lt h).2
      · exact (hC0.rp.lt h).2
    have hCW : C < W.heap.size := hC0.blk.lt
    obtain ⟨kd, pa, pb, qx, nx, cx, ok, b, rfl, hPb, hres⟩ : ∃ (kd pa pb : Int) (qx : Option Addr) (nx cx : Nat) (ok : Bool) (b : Nat), e = .returned (.tuple #[.agg #[.int .i64 kd, .int .i64 pa, .int .i64 pb, .slice qx nx cx], .bool ok]) ∧ Rd n₀ w1 R v ts b (8 - (d : Int)) ∧ Hid ((ok = true ∧ ∃ x : Ps, (kd, pa, pb) = (x.kind, x.a, x.b) ∧ V = some (c.addPs x, ts.drop b) ∧ SelsAt d (fun b => W.heap.size ≤ b) w1 (.slice qx nx cx) x.list) ∨ (ok = false ∧ V = none)) := by
      rcases hcs with ⟨x, b, y, hx, rfl, hy, hPb⟩ | ⟨hx, ⟨k1, k2, k3, q, n1, c1, rfl⟩, b, hPb⟩
      · obtain ⟨q, c1, rfl⟩ := hy.form
        exact ⟨x.kind, x.a, x.b, q, _, c1, true, b, rfl, hPb, .inl ⟨rfl, x, rfl, by rw [hv, hx]; rfl, hy⟩⟩
      · exact ⟨k1, k2, k3, q, n1, c1, false, b, rfl, hPb, .inr ⟨rfl, by rw [hv, hx]; rfl⟩⟩
    clear hcs hv
    have bA : Below w1.heap.size w1 (w1.alloc (.cells #[.int .i64 kd, .int .i64 pa, .int .i64 pb, .slice qx nx cx] 26)) := (Below.refl _ _).alloc (Nat.le_refl _) _
    have kA : Blk (w1.alloc (.cells #[.int .i64 kd, .int .i64 pa, .int .i64 pb, .slice qx nx cx] 26)) w1.heap.size 26 [.int .i64 kd, .int .i64 pa, .int .i64 pb, .slice qx nx cx] := Blk.new w1 26 _
    have hC2 := hC1.below bA
    go_upto_region 11 with fail
    generalize w1.alloc (.cells #[.int .i64 kd, .int .i64 pa, .int .i64 pb, .slice qx nx cx] 26) = w2 at *
    have bE : Below w1.heap.size w1 (w2.alloc (.cells #[.int .i64 kd, .int .i64 pa, .int .i64 pb, .slice qx nx cx] 26)).drew := below_drew (bA.trans ((((Below.refl _ w2).alloc (Nat.le_refl _) _)).mono bA.size))
    obtain ⟨⟨x0, x1, x2, x3⟩, _⟩ := blk4 kA
    obtain ⟨⟨y0, y1, y2, y3, y4⟩, e0, e1, e2, e3, e4⟩ := blk5 hC2.blk
    have hR4 : (w2.alloc (.cells #[.int .i64 kd, .int .i64 pa, .int .i64 pb, .slice qx nx cx] 26)).drew.ownsRow n 26 4 (.slice pp c.pss.length cp) c.pss.length css.flatten := owns_same r1 (fun g hg => bE.block g (owns_lt r1 hg).2)
    have hC4 : CUx d n (w2.alloc (.cells #[.int .i64 kd, .int .i64 pa, .int .i64 pb, .slice qx nx cx] 26)).drew C c i k a' (.slice pp c.pss.length cp) := hC1.below bE
    have H1 : ∀ u ∈ ([.int .i64 kd, .int .i64 pa, .int .i64 pb, .slice qx nx cx] : List Value), u.oneCell' = true := fun u hu => by simp at hu; rcases hu with rfl | rfl | rfl | rfl <;> rfl
    have m1 : c.pss.length + 1 ≤ maxLen := by unfold maxLen; omega
    have m2 : (c.pss.length + 1) * 48 ≤ 140737488355328 := by omega
    have hbO : n ≤ (w2.alloc (.cells #[.int .i64 kd, .int .i64 pa, .int .i64 pb, .slice qx nx cx] 26)).drew.heap.size := by have := hC4.blk.lt; omega
    have HB7 : Hid (∀ w7, (w2.alloc (.cells #[.int .i64 kd, .int .i64 pa, .int .i64 pb, .slice qx nx cx] 26)).drew.grownBy w7 (Value.slice pp c.pss.length cp).ownBlock → Blk w7 C 38 [.string c.tag, i, k, a', .slice pp c.pss.length cp]) := fun w7 hg => hC4.blk.kept hg (fun e => hC4.rp.off hC4.blk (by decide) e.symm)
    have HC : ∀ j u, ([.int .i64 kd, .int .i64 pa, .int .i64 pb, .slice qx nx cx] : List Value)[j]? = some u → (w2.alloc (.cells #[.int .i64 kd, .int .i64 pa, .int .i64 pb, .slice qx nx cx] 26)).drew.cell? ((⟨w2.heap.size, 0, none⟩ : Addr).add j) = some u := cells_drew w2 [.int .i64 kd, .int .i64 pa, .int .i64 pb, .slice qx nx cx] 26
    obtain ⟨⟨_, _, _, _, yy4⟩, _⟩ := blk5 (show Blk (w2.alloc (.cells #[.int .i64 kd, .int .i64 pa, .int .i64 pb, .slice qx nx cx] 26)) C 38 [.string c.tag, i, k, a', .slice pp c.pss.length cp] from hC4.blk)
    clear hC1 hC2 hC0 kA kb1 hb1 bA
    go_region_law (refine step_append_lies (w := (w2.alloc (.cells #[.int .i64 kd, .int .i64 pa, .int .i64 pb, .slice qx nx cx] 26)).drew) rfl _ _ 36 rfl n 26 i0 (.agg #[.int .i64 0, .int .i64 0, .int .i64 0, .slice none 0 0]) 4 48 Tryd.underlying36 hi hz0 hz1 hz2 rfl (by decide) (.slice pp c.pss.length cp) _ _ rfl hR4 ⟨w2.heap.size, 0, none⟩ 1 1 [.int .i64 kd, .int .i64 pa, .int .i64 pb, .slice qx nx cx] rfl rfl HC H1 (by decide) m1 m2 hbO _ rfl ?_; intro g7 c7 w7 hown7 hgrow7 hat7 hlt7; obtain ⟨⟨y0, y1, y2, y3, y4⟩, e0, e1, e2, e3, e4⟩ := blk5 ((show ∀ w7, _ → _ from HB7) w7 hgrow7))
    all_goals
      go_wp2
      rw [← (show _ = _ from HQ)]
      refine ⟨?_, (show ∀ (X Y : World) (q : Value), _ → _ → _ from HK) _ _ _ bE hgrow7⟩
      have hPz := (show ∀ (b : Nat) (X Y : World) (q : Value), _ → _ → _ → _ from HRd) b _ _ (.slice (some ⟨g7, 0, none⟩) (c.pss.length + 1) c7) hPb bE hgrow7
      rcases (show _ ∨ _ from hres) with ⟨rfl, x, hkk, hv, hy⟩ | ⟨rfl, hv⟩
      · have hk1 := (Prod.mk.inj hkk).1
        have hk2 := (Prod.mk.inj (Prod.mk.inj hkk).2).1
        have hk3 := (Prod.mk.inj (Prod.mk.inj hkk).2).2
        subst hk1 hk2 hk3
        exact .inl ⟨_, b, hv, rfl, ⟨_, _, _, _, hC4.addPs (x := x) (y := .slice qx nx cx) r2 r3 (fun j q z h1 h2 => psT_stays d _ _ _ _ _ _ (r4 j q z h1 h2) (Fr.of_below bE (fun _ h _ => h))) (SelsAt.fr d hy (Fr.of_below bE (fun _ h _ => h))) hCW hbl hown7 hgrow7 (fun g hg => by rw [slot_own hg]; exact hat7.imp id (fun h => by rw [h]; exact Nat.le_refl _))⟩, hPz⟩
      · exact .inr ⟨hv, rfl, b, hPz⟩
  have hv := hcl g3 g18 g11
  have f3 : (t.kind == 3) = false := by simpa using g3
  have f18 : (t.kind == 18) = false := by simpa using g18
  have f11 : (t.kind == 11) = false := by simpa using g11
  clear hid hat hps hcl g3 g18 g11 HL
  have b1 : Below W.heap.size W (W.alloc (.cells #[.int .i64 1] 3)) := (Below.refl _ _).alloc (Nat.le_refl _) _
  have h1 := pull_any n₀ R v ts a (8 - (d : Int)) (W.alloc (.cells #[.int .i64 1] 3)) (hP0.below b1) (.slice (some ⟨W.heap.size, 0, none⟩) 1 1) [1] (by rw [World.size_alloc]; exact ints_new W [1] 3 (by simp)) (by simp) rfl
  have hc1 : ([1] : List Int).contains (at' ts a).kind = decide ((at' ts a).kind = 1) := by simp
  rw [hc1] at h1
  have hg := Good.at HG a
  clear hc1
  obtain ⟨T, hT⟩ : ∃ T : Bt, T = (if decide ((at' ts a).kind = 1) = true then at' ts a else zeroT) := ⟨_, rfl⟩
  obtain ⟨ok, hok⟩ : ∃ ok, ok = decide ((at' ts a).kind = 1) := ⟨_, rfl⟩
  obtain ⟨b, hb⟩ : ∃ b, b = (if decide ((at' ts a).kind = 1) = true then a + 1 else a) := ⟨_, rfl⟩
  have hTs : T.text.size ≤ 1000000 := by
    rw [hT]
    split
    · exact hg.1
    · decide
  have hres : Hid ((ok = true ∧ V = some (c.addClass T.text, ts.drop b)) ∨ (ok = false ∧ V = none)) := by
    rw [hT, hok, hb, hv]
    by_cases hk : (at' ts a).kind = 1
    · rw [decide_eq_true hk, if_pos hk]
      exact .inl ⟨rfl, rfl⟩
    · rw [decide_eq_false hk, if_neg hk]
      exact .inr ⟨rfl, rfl⟩
  rw [← hT, ← hb, ← hok] at h1
  clear hT hok hb hg hv
  unfold tkV at h1
  go_wp2_with fail
  refine h1.mono ?_
  clear h1
  rintro e w1 ⟨rfl, hP1, hb1⟩
  have hC1 := (hC0.below b1).but hb1 hRn
  have kb1 : Kept (OffU R C i k a' p) w w1 := (kb0.trans (.of_below b1)).trans (hb1.mono (fun b _ hb => hb.1))
  obtain ⟨bO, kO⟩ := tok_new w1 T
  have hC2 := hC1.below bO
  have hP2 := hP1.below bO
  have kb2 : Kept (OffU R C i k a' p) w _ := kb1.trans (.of_below bO)
  clear t0 t1 t2 t3 t4 k0 hC0 kb0 hP0 b0 hb1 b1 f3 f18 f11 hC1 kb1 hP1
  go_upto_region 14 with fail
  generalize w1.alloc (.cells #[.int .i64 T.kind, .string T.text, .int .i64 T.n, .bool T.whole, .int .i64 T.c] 58) = w2 at *
  obtain ⟨⟨t0, t1, t2, t3, t4⟩, _⟩ := blk5 kO
  generalize T.text = tx at *
  obtain ⟨css, r1, r2, r3, r4⟩ := hC2.rk
  obtain ⟨pq, cq, rfl⟩ := owns_form r1
  obtain ⟨i0, hi, hz0, hz1, hz2⟩ := info_parts infoStr3
  have HK : Hid (∀ (X Y : World) (q : Value), Below w2.heap.size w2 X → X.grownBy Y (Value.slice pq c.classes.length cq).ownBlock → Kept (OffU R C i (.slice pq c.classes.length cq) a' p) w (Y.setCell ⟨C, 2, none⟩ q)) := fun X Y q hX hY => (((kb2.trans (.of_below hX)).grown hY (fun g e => .inr (fun h => h.2.2.2.1 e))).trans (Kept.setCell Y _ q (fun h => h.2.1 rfl)))
  have HRd : Hid (∀ (b : Nat) (X Y : World) (q : Value), Rd n₀ w2 R v ts b (8 - (d : Int)) → Below w2.heap.size w2 X → X.grownBy Y (Value.slice pq c.classes.length cq).ownBlock → Rd n₀ (Y.setCell ⟨C, 2, none⟩ q) R v ts b (8 - (d : Int))) := fun b X Y q hr hX hY => ((hr.below hX).kept (keep := fun b => b < n) (Kept.of_grown hY (fun g e h => by have := (hC2.rk.lt e).1; omega)) hRn (fun b hb => by omega)).other (by omega) (by omega) q
  have HR4 : Hid (∀ (X : World) (o : Obj), Below w2.heap.size w2 X → (X.alloc o).ownsRow n 9 1 (.slice pq c.classes.length cq) c.classes.length css.flatten) := fun X o hX => owns_same r1 (fun g hg => (hX.alloc hX.size o).block g (owns_lt r1 hg).2)
  have HC4 : Hid (∀ (X : World), Below w2.heap.size w2 X → CUx d n X C c i (.slice pq c.classes.length cq) a' p) := fun X hX => hC2.below hX
  have H1 : ∀ u ∈ ([.string tx] : List Value), u.oneCell' = true := fun u hu => by simp at hu; subst hu; rfl
  have m1 : c.classes.length + 1 ≤ maxLen := by unfold maxLen; omega
  have m2 : (c.classes.length + 1) * 16 ≤ 140737488355328 := by omega
  have HB7 : Hid (∀ (X : World) (o : Obj) w7, Below w2.heap.size w2 X → (X.alloc o).grownBy w7 (Value.slice pq c.classes.length cq).ownBlock → Blk w7 C 38 [.string c.tag, i, .slice pq c.classes.length cq, a', p]) := fun X o w7 hX hg => (hC2.below (hX.alloc hX.size o)).blk.kept hg (fun e => (hC2.below (hX.alloc hX.size o)).rk.off (hC2.below (hX.alloc hX.size o)).blk (by decide) e.symm)
  have HSZ : Hid (∀ (X : World) (o : Obj), Below w2.heap.size w2 X → n ≤ (X.alloc o).heap.size) := fun X o hX => by rw [World.size_alloc]; have := hX.size; have := hC2.blk.lt; omega
  have HBL : Hid (∀ (X : World), Below w2.heap.size w2 X → Blk X C 38 [.string c.tag, i, .slice pq c.classes.length cq, a', p]) := fun X hX => (hC2.below hX).blk
  have hq0 : Below w2.heap.size w2 w2.drew := below_drew (Below.refl _ _)
  obtain ⟨⟨y0, y1, y2, y3, y4⟩, e0, e1, e2, e3, e4⟩ := blk5 hC2.blk
  go_region_law (first
    | (refine step_append_lies (w := World.alloc _ _) rfl _ _ 34 rfl n 9 i0 (.string ⟨#[]⟩) 1 16 Tryd.underlying34 hi hz0 hz1 hz2 rfl (by decide) (.slice pq c.classes.length cq) _ _ rfl ((show ∀ (X : World) (o : Obj), _ → _ from HR4) _ _ (by assumption)) _ 1 1 [.string tx] rfl rfl (cells_plain _ [_] _) H1 (by decide) m1 m2 ((show ∀ (X : World) (o : Obj), _ → _ from HSZ) _ _ (by assumption)) _ rfl ?_; intro g7 c7 w7 hown7 hgrow7 hat7 hlt7; obtain ⟨⟨y0, y1, y2, y3, y4⟩, e0, e1, e2, e3, e4⟩ := blk5 ((show ∀ (X : World) (o : Obj) w7, _ → _ → _ from HB7) _ _ w7 (by assumption) hgrow7))
    | (go_simp; go_at_call 52; refine Calls.mono (clone_any _ _ hTs) ?_; rintro e wN ⟨rfl, bN⟩; have qN : Below w2.heap.size w2 wN := hq0.trans (bN.mono (Nat.le_refl _)); obtain ⟨⟨_, v1, v2, _, _⟩, _⟩ := blk5 ((show ∀ (X : World), _ → _ from HBL) wN qN); obtain ⟨⟨_, va1, va2, _, _⟩, _⟩ := blk5 ((show ∀ (X : World), _ → _ from HBL) (wN.alloc (.cells #[.string tx] 9)) (qN.alloc qN.size _))))
  all_goals
    go_wp2
    rw [← (show _ = _ from HQ)]
    refine ⟨?_, (show ∀ (X Y : World) (q : Value), _ → _ → _ from HK) _ _ _ (qN.alloc qN.size _) hgrow7⟩
    have hPz := (show ∀ (b : Nat) (X Y : World) (q : Value), _ → _ → _ → _ from HRd) _ _ _ (.slice (some ⟨g7, 0, none⟩) (c.classes.length + 1) c7) hP2 (qN.alloc qN.size _) hgrow7
    have hC4 := (show ∀ (X : World), _ → _ from HC4) _ (qN.alloc qN.size (.cells #[.string tx] 9))
    rcases (show _ ∨ _ from hres) with ⟨rfl, hv⟩ | ⟨rfl, hv⟩
    · exact .inl ⟨_, _, hv, rfl, ⟨_, _, _, _, hC4.addClass (x := tx) r2 r3 r4 hown7 hgrow7 (fun g hg => by rw [slot_own hg]; exact hat7.imp id (fun h => by rw [h]; exact Nat.le_refl _))⟩, hPz⟩
    · exact .inr ⟨hv, rfl, _, hPz⟩

end Go.Proofs.YtkhgmobependiaaDoor.Sl
