/- The reader of selectors: one selector. -/
import Derived.Test.YtkhgmobependiaaDoorSlGe
import Derived.Maps.OwnIn
namespace Go.Proofs.YtkhgmobependiaaDoor.Sl
open Go.Proofs.YtkhgmobependiaaDoor.Tre
open Go Go.RowKit Go.Shelf
attribute [local go_sem] Oper.semAt_some

theorem infoPt3 : (Tryd.prog.info? 40).map (fun i => (i.zero, i.size, i.bytes)) = some (some (.agg #[.int .i64 0, .string ⟨#[]⟩, .slice none 0 0, .slice none 0 0, .slice none 0 0, .slice none 0 0]), 6, 120) := by kernel_rfl
theorem infoSl : (Tryd.prog.info? 33).map (·.size) = some 1 := by kernel_rfl
theorem load_sl {w : World} {g : Nat} {a : Value} (h : Blk w g 33 [a]) : (loadVar 33 ⟨g, 0, none⟩).run Tryd.prog w = .ok (.agg #[a]) w :=
  run_loadVar_row w g _ 33 #[a] (0, 0) _ h Tryd.underlying33 rfl infoSl
theorem egCombs : ∀ args w, (callFunc 37 args).run Tryd.prog w = .ok (.enter 37 args) w := enters_of Tryd.func37 (by kernel_rfl) rfl
theorem combs_in (N R : Nat) (w : World) :
    CallsIn Fence.wide N Tryd.prog 26 #[.pointer (some ⟨R, 0, none⟩)] w fun e w' => e = .returned (.func (.func 37) #[] #[.pointer (some ⟨w.heap.size, 0, none⟩)]) ∧ w' = w.alloc (.cells #[.pointer (some ⟨R, 0, none⟩)] 49) := by
  refine callsIn_of_wp Tryd.func26 rfl trivial ?_ rfl
  simp only [Tryd.ntmps26, List.size_toArray, List.length_cons, List.length_nil, Nat.reduceAdd, Nat.reduceSub, Array.replicate_succ, Array.replicate_zero, List.push_toArray, List.append_toArray, List.nil_append, List.cons_append]
  gi_wp2
  go_ret
  exact ⟨rfl, rfl⟩
def PtTd (d : Nat) (P : Nat → Prop) (W : World) (c : List Value) (q : Pt) : Prop := PtT (SelsAt d P W) P W c q
theorem ptT_stays (d : Nat) : Stays (PtTd d) := fun _ _ _ _ _ _ ⟨c', e, h⟩ f => ⟨c', e, h.fr f (fun _ _ hx => SelsAt.fr d hx f)⟩
def OffS (S : Nat) (v : Value) (b : Nat) : Prop := S < b ∧ v.ownBlock ≠ some b
/-- The block S holds a selector whose parts are under way. -/
structure SelU (d S : Nat) (X : World) (v : Value) (ps : List Pt) : Prop where
  blk : Blk X S 33 [v]
  row : UndRow 40 6 (PtTd d) S (OffS S v) X v ps
theorem SelU.kept {d S : Nat} {X Y : World} {v : Value} {ps : List Pt} (h : SelU d S X v ps) {keep : Nat → Prop} (hk : Kept keep X Y) (hn : ∀ b, S ≤ b → Cl X b → keep b) : SelU d S Y v ps :=
  ⟨hk.blk h.blk (hn S (Nat.le_refl _) (h.blk.cl (by decide))), h.row.kept (ptT_stays d) (Fr.of_kept hk (fun b hb hcl => ⟨hn b (Nat.le_of_lt hb.1) hcl, hb⟩)) (fun g hg => hk.block g (h.row.lt hg).2 (hn g (h.row.lt hg).1 (h.row.cl (by decide) hg)))⟩
theorem SelU.below {d S : Nat} {X Y : World} {v : Value} {ps : List Pt} (h : SelU d S X v ps) (hb : Below X.heap.size X Y) : SelU d S Y v ps := h.kept (keep := fun _ => True) (.of_below hb) (fun _ _ _ => trivial)
theorem SelU.new (d : Nat) (W : World) : SelU d W.heap.size (W.alloc (.cells #[nilS] 33)) nilS [] := ⟨Blk.new W 33 _, UndRow.nil _ _ _ _ _ _⟩
/-- One part more: appended, and stored. -/
theorem SelU.push {d S : Nat} {W W' : World} {v v' : Value} {ps : List Pt} (h : SelU d S W v ps) {css : List (List Value)} (h2 : css.length = ps.length) (h3 : ∀ c ∈ css, c.length = 6) (h4 : ∀ (j : Nat) (q : List Value) (x : Pt), css[j]? = some q → ps[j]? = some x → PtTd d (OffS S v) W q x) {cb : Int} {q : Cp} {i k a p : Value} {m : Nat}
    (hx : CpT (SelsAt d (fun b => m ≤ b) W) (fun b => m ≤ b) W [.string q.tag, i, k, a, p] q) (hmS : S < m) (hm : ∀ g, v.ownBlock = some g → g < m)
    (hr : W'.ownsRow S 40 6 v' (ps.length + 1) (css.flatten ++ [.int .i64 cb, .string q.tag, i, k, a, p])) (hg : W.grownBy W' v.ownBlock) (hat : ∀ g, v'.ownBlock = some g → v.ownBlock = some g ∨ W.heap.size ≤ g) : SelU d S (W'.setCell ⟨S, 0, none⟩ v') v' (ps ++ [(cb, q)]) := by
  have hSW := h.blk.lt
  have ov := h.row.off h.blk (by decide)
  have keep : ∀ b, b < W.heap.size → b ≠ S → v.ownBlock ≠ some b → (W'.setCell ⟨S, 0, none⟩ v').heap[b]? = W.heap[b]? := fun b hb h1 h2 =>
    (Below.heap_setCell _ _ _ _ (fun e => h1 (by simpa using e))).trans (hg.block b hb (fun e => h2 e.symm))
  have hsz : W.heap.size ≤ (W'.setCell ⟨S, 0, none⟩ v').heap.size := by rw [World.size_setCell]; exact hg.size
  have f : Fr (OffS S v) (OffS S v') W (W'.setCell ⟨S, 0, none⟩ v') := ⟨hsz, fun b hb hl => ⟨keep b hl.lt (by have := hb.1; omega) hb.2, hb.1, fun e => (hat b e).elim hb.2 (fun h => by have := hl.lt; omega)⟩⟩
  have f2 : Fr (fun b => m ≤ b) (OffS S v') W (W'.setCell ⟨S, 0, none⟩ v') := ⟨hsz, fun b hb hl => ⟨keep b hl.lt (by omega) (fun e => by have := hm b e; omega), by omega, fun e => (hat b e).elim (fun e => by have := hm b e; omega) (fun h => by have := hl.lt; omega)⟩⟩
  have hvS : v'.ownBlock ≠ some S := fun e => (hat S e).elim ov (fun h => by omega)
  have hr' : (W'.setCell ⟨S, 0, none⟩ v').ownsRow S 40 6 v' _ _ := owns_same hr (fun g hg' => Below.heap_setCell _ _ _ _ (fun e => hvS (by simp at e; rw [← e]; exact hg')))
  exact ⟨blk_set1 ((show Blk W' S _ _ from (hg.block S hSW (fun e => ov e.symm)).trans h.blk)) v', und_push (ptT_stays d) h2 h3 h4 rfl ⟨_, rfl, hx.fr f2 (fun _ _ h => SelsAt.fr d h f2)⟩ f hr'⟩
theorem SelU.done {d S : Nat} {X : World} {v : Value} {ps : List Pt} (h : SelU d S X v ps) : PtsF (SelsAt d (fun b => S ≤ b) X) (fun b => S ≤ b) X v ps := h.row.done (by decide) (ptT_stays d) (fun b hb => Nat.le_of_lt hb.1) (fun g hg => (h.row.lt hg).1)
/-- What lies while a selector's parts are read. -/
structure SelK (d n₀ R : Nat) (w : World) (l : Nat) (ps : List Pt) (X : World) : Prop where
  su : ∃ v, SelU d (w.heap.size + 1 + 1 + 1) X v ps
  box : Blk X w.heap.size 49 [.pointer (some ⟨R, 0, none⟩)]
  r1 : Blk X (w.heap.size + 1) 33 [nilS]
  r2 : Blk X (w.heap.size + 1 + 1) 4 [.bool false]
  box2 : Blk X (w.heap.size + 1 + 1 + 1 + 1) 49 [.pointer (some ⟨R, 0, none⟩)]
  ops : OpsAt n₀ X
  old : Kept (fun b => b ≠ R ∧ b < w.heap.size) w X
  lp : ∃ r, X.heap[l]? = some (.loop r)
/-- What lies where a compound was none. -/
structure SelX (n₀ R : Nat) (v : Value) (ts : List Bt) (d : Nat) (w : World) (X : World) : Prop where
  r1 : Blk X (w.heap.size + 1) 33 [nilS]
  r2 : Blk X (w.heap.size + 1 + 1) 4 [.bool false]
  old : Kept (fun b => b ≠ R ∧ b < w.heap.size) w X
  rd : ∃ b, Rd n₀ X R v ts b (8 - (d : Int))
theorem SelK.kept {d n₀ R : Nat} {w : World} {l : Nat} {ps : List Pt} {X Y : World} (h : SelK d n₀ R w l ps X) {keep : Nat → Prop} (hk : Kept keep X Y) (hn₀ : n₀ ≤ R) (hRw : R < w.heap.size) (hold : ∀ b, b < w.heap.size → b ≠ R → keep b) (hnew : ∀ b, w.heap.size ≤ b → Cl X b → keep b) (hl : ∃ r, Y.heap[l]? = some (.loop r)) : SelK d n₀ R w l ps Y := by
  obtain ⟨u, hu⟩ := h.su
  refine ⟨⟨u, hu.kept hk (fun b hb => hnew b (by omega))⟩, hk.blk h.box (hnew _ (Nat.le_refl _) (h.box.cl (by decide))), hk.blk h.r1 (hnew _ (by omega) (h.r1.cl (by decide))), hk.blk h.r2 (hnew _ (by omega) (h.r2.cl (by decide))), hk.blk h.box2 (hnew _ (by omega) (h.box2.cl (by decide))), h.ops.below (hk.below ?_ (fun b hb => hold b (by omega) (by omega))), old_kept h.old hk hold, hl⟩
  have := h.old.size
  omega
theorem SelX.kept {n₀ R : Nat} {v : Value} {ts : List Bt} {d : Nat} {w X Y : World} (h : SelX n₀ R v ts d w X) {keep : Nat → Prop} (hk : Kept keep X Y) (hn₀ : n₀ ≤ R) (hRw : R < w.heap.size) (hold : ∀ b, b < w.heap.size + 3 → keep b) : SelX n₀ R v ts d w Y :=
  ⟨hk.blk h.r1 (hold _ (by omega)), hk.blk h.r2 (hold _ (by omega)), old_kept h.old hk (fun b hb _ => hold b (by omega)), h.rd.elim fun b hb => ⟨b, hb.kept hk (hold _ (by omega)) (fun c hc => hold c (by omega))⟩⟩
theorem SelK.turn {d n₀ R : Nat} {w : World} {l : Nat} {ps : List Pt} {X : World} (h : SelK d n₀ R w l ps X) (r : Loop) (hn₀ : n₀ ≤ R) (hRw : R < w.heap.size) (hlw : w.heap.size ≤ l) : SelK d n₀ R w l ps (X.putObj l (.loop r)) := by
  obtain ⟨r0, h0⟩ := h.lp
  exact h.kept (kept_putObj X l (.loop r)) hn₀ hRw (fun b hb _ => by omega) (fun b _ hb e => by obtain ⟨cs, t, f, hc, _⟩ := hb; rw [e, h0] at hc; cases hc) ⟨r, World.putObj_heap_same (Array.getElem?_eq_some_iff.1 h0).1⟩
theorem SelK.step {d n₀ R : Nat} {w : World} {l : Nat} {ps ps' : List Pt} {X Y : World} {v v' : Value} (h : SelK d n₀ R w l ps X) (hu : SelU d (w.heap.size + 1 + 1 + 1) X v ps) (hk : Kept (fun b => b ≠ w.heap.size + 1 + 1 + 1 ∧ v.ownBlock ≠ some b) X Y) (hu' : SelU d (w.heap.size + 1 + 1 + 1) Y v' ps') (hn₀ : n₀ ≤ R) (hRw : R < w.heap.size) : SelK d n₀ R w l ps' Y := by
  have hs := hu.row
  have lo : ∀ b, b < w.heap.size + 1 + 1 + 1 → b ≠ w.heap.size + 1 + 1 + 1 ∧ v.ownBlock ≠ some b := fun b hb => ⟨by omega, fun e => by have := (hs.lt e).1; omega⟩
  obtain ⟨r, hr⟩ := h.lp
  refine ⟨⟨v', hu'⟩, hk.blk h.box (lo _ (by omega)), hk.blk h.r1 (lo _ (by omega)), hk.blk h.r2 (lo _ (by omega)), hk.blk h.box2 ⟨by omega, hs.off h.box2 (by decide)⟩, h.ops.below (hk.below ?_ (fun b hb => lo b (by omega))), old_kept h.old hk (fun b hb _ => lo b (by omega)), ⟨r, (hk.block l (Array.getElem?_eq_some_iff.1 hr).1 ⟨fun e => ?_, owns_apart hs.choose_spec.1 hr (fun _ _ e => by cases e)⟩).trans hr⟩⟩
  · have := h.old.size
    omega
  · have := hu.blk
    rw [← e] at this
    rw [show X.heap[l]? = _ from this] at hr
    cases hr
/-- What a selector hands back. -/
def SelOut (n₀ R : Nat) (v : Value) (ts : List Bt) (d : Nat) (w : World) (V : Option (Sel × List Bt)) (e : Ending) (w' : World) : Prop :=
  ((∃ s b x, V = some (s, ts.drop b) ∧ e = .returned (.tuple #[.agg #[x], .bool true]) ∧ PtsF (SelsAt d (fun b => w.heap.size ≤ b) w') (fun b => w.heap.size ≤ b) w' x s ∧ Rd n₀ w' R v ts b (8 - (d : Int))) ∨
    (V = none ∧ e = .returned (.tuple #[.agg #[nilS], .bool false]) ∧ ∃ b, Rd n₀ w' R v ts b (8 - (d : Int)))) ∧ But R w w'

set_option maxRecDepth 100000 in
set_option maxHeartbeats 4000000 in
theorem selector_any (n₀ R : Nat) (v : Value) (ts : List Bt) (a0 : Nat) (d : Nat) (w : World) (hP : Rd n₀ w R v ts a0 (8 - (d : Int))) (hS : OpsAt n₀ w) (hG : Good ts) (hd : d ≤ 8) (hL : ∀ d', d = d' + 1 → ListOK n₀ d') :
    Calls Tryd.prog 13 #[.pointer (some ⟨R, 0, none⟩)] w (SelOut n₀ R v ts d w (selV (innerV d) (ts.drop a0))) := by
  have hR := hP.lt
  have hlo := hP.low
  have hlm := hP.most
  have hal0 := hP.least
  obtain ⟨V, hV⟩ : ∃ V, selV (innerV d) (ts.drop a0) = V := ⟨_, rfl⟩
  rw [hV]
  obtain ⟨Q, hQ⟩ : ∃ Q, SelOut n₀ R v ts d w V = Q := ⟨_, rfl⟩
  rw [hQ]
  refine (callsIn_wide (n := 2)).1 ?_
  refine callsIn_of_wp_marks Tryd.func13 rfl trivial ?_ rfl
  simp only [Tryd.ntmps13, List.size_toArray, List.length_cons, List.length_nil, Nat.reduceAdd, Nat.reduceSub, Array.replicate_succ, Array.replicate_zero, List.push_toArray, List.append_toArray, List.nil_append, List.cons_append]
  obtain ⟨w3, hw3⟩ : ∃ w3, ((w.alloc (.cells #[.pointer (some ⟨R, 0, none⟩)] 49)).alloc (.cells #[nilS] 33)).alloc (.cells #[.bool false] 4) = w3 := ⟨_, rfl⟩
  have hs3 : w3.heap.size = w.heap.size + 1 + 1 + 1 := by rw [← hw3]; simp
  have hB3 : Below w.heap.size w w3 := by rw [← hw3]; exact (((Below.refl _ w).alloc (Nat.le_refl _) _).alloc (by simp) _).alloc (by simp; omega) _
  have kB : Blk w3 w.heap.size 49 [.pointer (some ⟨R, 0, none⟩)] := by
    rw [← hw3]
    exact ((Blk.new w 49 _).kept (World.grownBy_alloc _ _ none) (by simp)).kept (World.grownBy_alloc _ _ none) (by simp)
  have k1 : Blk w3 (w.heap.size + 1) 33 [nilS] := by
    rw [← hw3]
    have := (Blk.new (w.alloc (.cells #[.pointer (some ⟨R, 0, none⟩)] 49)) 33 [nilS]).kept (World.grownBy_alloc _ (.cells #[.bool false] 4) none) (by simp)
    rwa [World.size_alloc] at this
  have k2 : Blk w3 (w.heap.size + 1 + 1) 4 [.bool false] := by
    rw [← hw3]
    have := Blk.new ((w.alloc (.cells #[.pointer (some ⟨R, 0, none⟩)] 49)).alloc (.cells #[nilS] 33)) 4 [.bool false]
    rwa [World.size_alloc, World.size_alloc] at this
  have b5 : Below w3.heap.size w3 (w3.alloc (.cells #[nilS] 33)) := (Below.refl _ _).alloc (Nat.le_refl _) _
  have hSU := SelU.new d w3
  obtain ⟨w5, hw5⟩ : ∃ w5, w3.alloc (.cells #[nilS] 33) = w5 := ⟨_, rfl⟩
  rw [hw5] at b5 hSU
  have hs5 : w5.heap.size = w.heap.size + 1 + 1 + 1 + 1 := by rw [← hw5, World.size_alloc, hs3]
  rw [hs3] at hSU
  have hP5 := (hP.below hB3).below b5
  have hbw5 : But R w w5 := (Kept.of_below hB3).trans (.of_below b5)
  replace kB := kB.below b5 kB.lt
  replace k1 := k1.below b5 k1.lt
  replace k2 := k2.below b5 k2.lt
  have cB := (blk1 kB).1
  gi_wp2_with fail
  refine ⟨trivial, ?_⟩
  clear hw3 hw5
  refine (combs_in _ R w5).mono ?_
  rintro e w6 ⟨rfl, hw6⟩
  have b6 : Below w5.heap.size w5 w6 := by rw [hw6]; exact (Below.refl _ _).alloc (Nat.le_refl _) _
  have kX : Blk w6 w5.heap.size 49 [.pointer (some ⟨R, 0, none⟩)] := by rw [hw6]; exact Blk.new w5 _ _
  have hs6 : w6.heap.size = w5.heap.size + 1 := by rw [hw6]; exact World.size_alloc _ _
  replace kB := kB.below b6 kB.lt
  replace k1 := k1.below b6 k1.lt
  replace k2 := k2.below b6 k2.lt
  have hSU6 := hSU.below b6
  have hP6 := hP5.below b6
  have hbw6 : But R w w6 := hbw5.trans (.of_below b6)
  have hO6 := hS.kept hbw6 hlo hR
  clear hw6 hSU hP5 hbw5 b6 b5 hB3 cB
  rw [hs5] at kX hs6
  gi_wp2_with fail
  have hs6' : w6.heap.size = w.heap.size + 5 := by omega
  have hs6g : w.heap.size + 5 ≤ w6.heap.size := by omega
  clear hs6 hs5 hs3 hs6'
  have HQ : Hid (SelOut n₀ R v ts d w V = Q) := hQ
  clear hQ
  refine wpIn_rangeFunc_Q (σ := List Pt × Nat) (α := Int) rfl (by decide) (gf := 37) (lb := #[.pointer (some ⟨w.heap.size + 1 + 1 + 1 + 1, 0, none⟩)]) rfl trivial egCombs (encs := fun t => #[.int .i64 t]) (fun _ => rfl)
    (fun _ W => W) (fun _ W => Below.refl _ _)
    (fun t _ => { tmps := #[.pointer (some ⟨R, 0, none⟩), .pointer (some ⟨w.heap.size, 0, none⟩), .pointer (some ⟨w.heap.size + 1, 0, none⟩), .pointer (some ⟨w.heap.size + 1 + 1, 0, none⟩), .pointer (some ⟨w.heap.size + 1 + 1 + 1, 0, none⟩), .int .i64 t, undef, undef, .pointer (some ⟨R, 0, none⟩), .func (.func 37) #[] #[.pointer (some ⟨w.heap.size + 1 + 1 + 1 + 1, 0, none⟩)], .int .i64 t, undef, undef, undef, undef, undef, undef, undef, undef, undef, undef, undef, undef, undef, undef, undef, undef, undef], defers := [] })
    (fun s _ W => s.1.length ≤ s.2 ∧ SelK d n₀ R w (w6.heap.size + 1) s.1 W ∧ Rd n₀ W R v ts s.2 (8 - (d : Int)))
    (fun s x W => ∃ c b, compV (innerV d) (ts.drop s.2) = some (c, ts.drop b) ∧ SelK d n₀ R w (w6.heap.size + 1) (s.1 ++ [(x, c)]) W ∧ Rd n₀ W R v ts b (8 - (d : Int)))
    (fun s _ W => compV (innerV d) (ts.drop s.2) = none ∧ SelX n₀ R v ts d w W)
    (fun W => V = none ∧ SelX n₀ R v ts d w W)
    (fun W => ∃ ps b, V = some (ps, ts.drop b) ∧ SelK d n₀ R w (w6.heap.size + 1) ps W ∧ Rd n₀ W R v ts b (8 - (d : Int)))
    ?hPost ?hStop ?hStopD ?hDone ?assign ?body ?call ?done ?stop
  case hPost =>
    rintro ⟨pre, a⟩ x X r ⟨c, b, h1, h2, h3⟩ hlt
    exact ⟨c, b, h1, h2.turn r hlo hR (by omega), h3.kept (kept_putObj X _ _) (by omega) (fun b hb => by omega)⟩
  case hStop =>
    rintro s x X r ⟨h0, h⟩ hlt
    exact ⟨h0, h.kept (kept_putObj X (w6.heap.size + 1) (.loop r)) hlo hR (fun b hb => by omega)⟩
  case hStopD =>
    rintro X r ⟨h0, h⟩ hlt
    exact ⟨h0, h.kept (kept_putObj X (w6.heap.size + 1) (.loop r)) hlo hR (fun b hb => by omega)⟩
  case hDone =>
    rintro X r ⟨ps, b, h1, h2, h3⟩ hlt
    exact ⟨ps, b, h1, h2.turn r hlo hR (by omega), h3.kept (kept_putObj X _ _) (by omega) (fun b hb => by omega)⟩
  case assign =>
    intro l x X K hK
    gi_wp2
    exact hK
  case body =>
    rintro l' ⟨pre, a⟩ x W0 W ⟨hpl, hK, hPa⟩ hsz ⟨r, rfl⟩ hdf hlp
    have hKW := hK.turn r hlo hR (show w.heap.size ≤ w6.heap.size + 1 by omega)
    have hPW := hPa.kept (kept_putObj W0 (w6.heap.size + 1) (.loop r)) (by omega) (fun b hb => by omega)
    have hal := hPa.least
    obtain ⟨i0, hi, hz0, hz1, hz2⟩ := info_parts infoPt3
    clear hK hPa
    simp only at hpl hKW hPW
    generalize W0.putObj (w6.heap.size + 1) (.loop r) = W at *
    have hcp := compound_any n₀ R v ts a d W hPW hKW.ops hG hd hL
    have cBx := (blk1 hKW.box).1
    have hszW : w6.heap.size + 1 < W.heap.size := by obtain ⟨r0, h0⟩ := hlp; exact (Array.getElem?_eq_some_iff.1 h0).1
    have HKW : Hid (SelK d n₀ R w (w6.heap.size + 1) pre W) := hKW
    clear hL hG hS hP hP6 hbw6 hO6 kB k1 k2 kX hSU6 hV hKW
    generalize hU : compV (innerV d) (ts.drop a) = U at *
    gi_wp2_with fail
    refine ⟨trivial, by first | rfl | exact fun h => (by cases h), ?_⟩
    refine (CallsIn.inRound l' (callsIn_wide.2 hcp)).mono ?_
    clear hcp
    rintro e w1 ⟨hcs, hb1⟩
    have hKW := (show SelK d n₀ R w (w6.heap.size + 1) pre W from HKW)
    obtain ⟨r0, h0⟩ := hlp
    have hlb1 : w1.heap[w6.heap.size]? = W.heap[w6.heap.size]? ∧ w1.heap[w6.heap.size + 1]? = W.heap[w6.heap.size + 1]? := ⟨hb1.block _ (by omega) (by omega), hb1.block _ (by omega) (by omega)⟩
    have hK1 : SelK d n₀ R w (w6.heap.size + 1) pre w1 := hKW.kept hb1 hlo hR (fun b _ h => h) (fun b hb _ => by omega) ⟨r0, hlb1.2.trans h0⟩
    have hs1 := hb1.size
    clear HKW cBx
    rcases hcs with ⟨c, b, i, k, ea, ep, hv, rfl, hcpt, hPb⟩ | ⟨hv, ⟨tg, q1, m1, c1, q2, m2, c2, q3, m3, c3, q4, m4, c4, rfl⟩, b, hPb⟩
    · obtain ⟨_, _, _, _, heq, f1, f2, f3, f4⟩ := hcpt
      have hcpt : CpT (SelsAt d (fun b => W.heap.size ≤ b) w1) (fun b => W.heap.size ≤ b) w1 [.string c.tag, i, k, ea, ep] c := ⟨_, _, _, _, heq, f1, f2, f3, f4⟩
      simp only [List.cons.injEq, and_true, true_and] at heq
      obtain ⟨rfl, rfl, rfl, rfl⟩ := heq
      obtain ⟨qi, ci, rfl, _⟩ := FinRow.form f1
      obtain ⟨qk, ck, rfl, _⟩ := FinRow.form f2
      obtain ⟨qa, ca, rfl, _⟩ := FinRow.form f3
      obtain ⟨qp, cp, rfl, _⟩ := FinRow.form f4
      clear f1 f2 f3 f4
      obtain ⟨u, huw⟩ := hKW.su
      have hu : SelU d (w.heap.size + 1 + 1 + 1) w1 u pre := huw.kept hb1 (fun b hb _ => by omega)
      have hSW : w.heap.size + 1 + 1 + 1 < W.heap.size := by omega
      have huW : ∀ g, u.ownBlock = some g → g < W.heap.size := fun g hg => (huw.row.lt hg).2
      clear huw hKW
      obtain ⟨qu, cu, rfl⟩ := hu.row.form
      have bA : Below w1.heap.size w1 (w1.alloc (.cells #[.string c.tag, .slice qi c.ids.length ci, .slice qk c.classes.length ck, .slice qa c.attrs.length ca, .slice qp c.pss.length cp] 38)) := (Below.refl _ _).alloc (Nat.le_refl _) _
      have kA : Blk (w1.alloc (.cells #[.string c.tag, .slice qi c.ids.length ci, .slice qk c.classes.length ck, .slice qa c.attrs.length ca, .slice qp c.pss.length cp] 38)) w1.heap.size 38 [.string c.tag, .slice qi c.ids.length ci, .slice qk c.classes.length ck, .slice qa c.attrs.length ca, .slice qp c.pss.length cp] := Blk.new w1 _ _
      have huA := hu.below bA
      have cSA := (blk1 huA.blk).1
      obtain ⟨⟨x0, x1, x2, x3, x4⟩, _⟩ := blk5 kA
      obtain ⟨w2, hw2⟩ : ∃ w2, w1.alloc (.cells #[.string c.tag, .slice qi c.ids.length ci, .slice qk c.classes.length ck, .slice qa c.attrs.length ca, .slice qp c.pss.length cp] 38) = w2 := ⟨_, rfl⟩
      rw [hw2] at bA kA huA cSA x0 x1 x2 x3 x4
      have bE : Below w1.heap.size w1 (w2.alloc (.cells #[.int .i64 x, .string c.tag, .slice qi c.ids.length ci, .slice qk c.classes.length ck, .slice qa c.attrs.length ca, .slice qp c.pss.length cp] 40)) := below_next bA ((Below.refl _ _).alloc (Nat.le_refl _) _)
      have huE := hu.below bE
      obtain ⟨css, r1, r2, r3, r4⟩ := huE.row
      have hcE := hcpt.fr (Fr.of_below (P' := fun b => W.heap.size ≤ b) bE (fun _ h _ => h)) (fun _ _ h => SelsAt.fr d h (Fr.of_below bE (fun _ h _ => h)))
      have HS4 : Hid (∀ w4, (w2.alloc (.cells #[.int .i64 x, .string c.tag, .slice qi c.ids.length ci, .slice qk c.classes.length ck, .slice qa c.attrs.length ca, .slice qp c.pss.length cp] 40)).grownBy w4 (Value.slice qu pre.length cu).ownBlock → Blk w4 (w.heap.size + 1 + 1 + 1) 33 [.slice qu pre.length cu]) := fun w4 hg => huE.blk.kept hg (fun e => huE.row.off huE.blk (by decide) e.symm)
      have H1 : ∀ u ∈ ([.int .i64 x, .string c.tag, .slice qi c.ids.length ci, .slice qk c.classes.length ck, .slice qa c.attrs.length ca, .slice qp c.pss.length cp] : List Value), u.oneCell' = true := fun u hu => by simp at hu; rcases hu with rfl | rfl | rfl | rfl | rfl | rfl <;> rfl
      have HV : Hid (U = some (c, ts.drop b)) := hv
      have hSE : w.heap.size + 1 + 1 + 1 ≤ (w2.alloc (.cells #[.int .i64 x, .string c.tag, .slice qi c.ids.length ci, .slice qk c.classes.length ck, .slice qa c.attrs.length ca, .slice qp c.pss.length cp] 40)).heap.size := by have := bE.size; omega
      clear hv hU hcpt
      gi_wp2_with (gi_at_builtin; refine wpListIn_append_own_at _ rfl _ _ 31 rfl (w.heap.size + 1 + 1 + 1) 40 i0 (.agg #[.int .i64 0, .string ⟨#[]⟩, .slice none 0 0, .slice none 0 0, .slice none 0 0, .slice none 0 0]) 6 120 Tryd.underlying31 hi hz0 hz1 hz2 rfl (by decide) (.slice qu pre.length cu) _ _ rfl r1 ⟨w2.heap.size, 0, none⟩ 1 1 [.int .i64 x, .string c.tag, .slice qi c.ids.length ci, .slice qk c.classes.length ck, .slice qa c.attrs.length ca, .slice qp c.pss.length cp] rfl rfl (cells_plain w2 [.int .i64 x, .string c.tag, .slice qi c.ids.length ci, .slice qk c.classes.length ck, .slice qa c.attrs.length ca, .slice qp c.pss.length cp] _) H1 (by unfold maxLen; omega) (by omega) hSE ?_; intro v' w4 hown4 hgrow4 hnil4 hat4; obtain ⟨q4, c4, rfl⟩ := owns_form hown4; obtain ⟨s0, s1⟩ := blk1 ((show ∀ w4, _ → _ from HS4) w4 hgrow4))
      have hat : ∀ g, (Value.slice q4 (pre.length + 1) c4).ownBlock = some g → (Value.slice qu pre.length cu).ownBlock = some g ∨ (w2.alloc (.cells #[.int .i64 x, .string c.tag, .slice qi c.ids.length ci, .slice qk c.classes.length ck, .slice qa c.attrs.length ca, .slice qp c.pss.length cp] 40)).heap.size ≤ g := fun g hg => hat4.elim (fun h => .inl (by rw [← h]; exact hg)) (fun h => .inr (by rw [h] at hg; injection hg with hg; omega))
      have hu5 := huE.push (cb := x) (q := c) r2 r3 r4 hcE hSW huW hown4 hgrow4 hat
      have hk5 : Kept (fun b => b ≠ w.heap.size + 1 + 1 + 1 ∧ (Value.slice qu pre.length cu).ownBlock ≠ some b) w1 (w4.setCell ⟨w.heap.size + 1 + 1 + 1, 0, none⟩ (.slice q4 (pre.length + 1) c4)) := ((Kept.of_below bE).trans (Kept.of_grown hgrow4 (fun g e h => h.2 e))).trans (Kept.setCell _ _ _ (fun h => h.1 rfl))
      have hK5 := hK1.step hu hk5 hu5 hlo hR
      have hP5 := hPb.kept hk5 ⟨by omega, fun e => by have := (hu.row.lt e).1; omega⟩ (fun b hb => ⟨by omega, fun e => by have := (hu.row.lt e).1; omega⟩)
      have hd5 : (w4.setCell ⟨w.heap.size + 1 + 1 + 1, 0, none⟩ (.slice q4 (pre.length + 1) c4)).heap[w6.heap.size]? = W.heap[w6.heap.size]? := (hk5.block _ (by omega) ⟨by omega, owns_apart hu.row.choose_spec.1 (hlb1.1.trans hdf) (fun _ _ e => by cases e)⟩).trans hlb1.1
      have hl5 : (w4.setCell ⟨w.heap.size + 1 + 1 + 1, 0, none⟩ (.slice q4 (pre.length + 1) c4)).heap[w6.heap.size + 1]? = W.heap[w6.heap.size + 1]? := (hk5.block _ (by omega) ⟨by omega, owns_apart hu.row.choose_spec.1 (hlb1.2.trans h0) (fun _ _ e => by cases e)⟩).trans hlb1.2
      have hz5 : W.heap.size ≤ (w4.setCell ⟨w.heap.size + 1 + 1 + 1, 0, none⟩ (.slice q4 (pre.length + 1) c4)).heap.size := Nat.le_trans hs1 hk5.size
      clear hk5 hu5 hat hat4 hgrow4 hown4 hcE r1 r2 r3 r4 huE bE HS4 H1 hw2
      gi_wp2
      exact ⟨⟨hz5, hd5, hl5⟩, c, b, HV, hK5, hP5⟩
    · have bA : Below w1.heap.size w1 (w1.alloc (.cells #[.string tg, .slice q1 m1 c1, .slice q2 m2 c2, .slice q3 m3 c3, .slice q4 m4 c4] 38)) := (Below.refl _ _).alloc (Nat.le_refl _) _
      obtain ⟨w2, hw2⟩ : ∃ w2, w1.alloc (.cells #[.string tg, .slice q1 m1 c1, .slice q2 m2 c2, .slice q3 m3 c3, .slice q4 m4 c4] 38) = w2 := ⟨_, rfl⟩
      rw [hw2] at bA
      have hB1 := hK1.r1.below bA hK1.r1.lt
      have hB2 := hK1.r2.below bA hK1.r2.lt
      have hold := old_kept hK1.old (Kept.of_below (keep := fun _ => True) bA) (fun _ _ _ => trivial)
      have hP2 := hPb.below bA
      have hd2 : w2.heap[w6.heap.size]? = W.heap[w6.heap.size]? ∧ w2.heap[w6.heap.size + 1]? = W.heap[w6.heap.size + 1]? := ⟨(bA.block _ (by omega)).trans hlb1.1, (bA.block _ (by omega)).trans hlb1.2⟩
      have hs2 : W.heap.size ≤ w2.heap.size := Nat.le_trans hs1 bA.size
      obtain ⟨z0, f0⟩ := blk1 hB1
      obtain ⟨y0, g0⟩ := blk1 hB2
      have hB1' := (blk_set1 hB1 nilS).kept (grown_set (w2.setCell ⟨w.heap.size + 1, 0, none⟩ nilS) (w.heap.size + 1 + 1) 0 (.bool false)) (by simp)
      have hB2' := blk_set1 (hB2.kept (grown_set w2 (w.heap.size + 1) 0 nilS) (by simp)) (.bool false)
      have hkz : Kept (fun b => b ≠ w.heap.size + 1 ∧ b ≠ w.heap.size + 1 + 1) w2 ((w2.setCell ⟨w.heap.size + 1, 0, none⟩ nilS).setCell ⟨w.heap.size + 1 + 1, 0, none⟩ (.bool false)) := Kept.trans (Kept.of_grown (grown_set w2 (w.heap.size + 1) 0 nilS) (fun k e h => by cases e; exact h.1 rfl)) (Kept.of_grown (grown_set _ (w.heap.size + 1 + 1) 0 (.bool false)) (fun k e h => by cases e; exact h.2 rfl))
      have hPz := hP2.kept hkz ⟨by omega, by omega⟩ (fun b hb => ⟨by omega, by omega⟩)
      have hoz := old_kept hold hkz (fun b hb _ => ⟨by omega, by omega⟩)
      have hfz : W.heap.size ≤ ((w2.setCell ⟨w.heap.size + 1, 0, none⟩ nilS).setCell ⟨w.heap.size + 1 + 1, 0, none⟩ (.bool false)).heap.size ∧ ((w2.setCell ⟨w.heap.size + 1, 0, none⟩ nilS).setCell ⟨w.heap.size + 1 + 1, 0, none⟩ (.bool false)).heap[w6.heap.size]? = W.heap[w6.heap.size]? ∧ ((w2.setCell ⟨w.heap.size + 1, 0, none⟩ nilS).setCell ⟨w.heap.size + 1 + 1, 0, none⟩ (.bool false)).heap[w6.heap.size + 1]? = W.heap[w6.heap.size + 1]? := ⟨Nat.le_trans hs2 hkz.size, (hkz.block _ (by omega) ⟨by omega, by omega⟩).trans hd2.1, (hkz.block _ (by omega) ⟨by omega, by omega⟩).trans hd2.2⟩
      have HV : Hid (U = none) := hv
      clear hv hU hkz hs2 hd2 hold hP2 hB1 hB2 bA hK1 hKW
      gi_wp2
      exact ⟨hfz, HV, hB1', hB2', hoz, b, hPz⟩
  case call =>
    rintro Lp Lx W1 hLp hLx hb1 hsz1 hr1 hlp1 hY
    have hk1 : Kept (fun _ => True) w6 W1 := .of_below hb1
    rw [← hV]
    refine (combs1_in 1 (w6.heap.size + 1) R (w.heap.size + 1 + 1 + 1 + 1) n₀ v ts d (fun c X => SelK d n₀ R w (w6.heap.size + 1) c X ∧ Lp X) (fun X => Lx X ∧ SelX n₀ R v ts d w X) W1 a0 (hP6.below hb1) ⟨⟨⟨_, hSU6.below hb1⟩, kB.below hb1 kB.lt, k1.below hb1 k1.lt, k2.below hb1 k2.lt, kX.below hb1 kX.lt, hO6.below (hb1.mono (by omega)), ((hbw6.mono (fun b _ hb => hb.1)).trans (hk1.mono (fun _ _ _ => trivial))), hr1⟩, hlp1⟩ ?_ ?_ ?_).mono ?_
    · exact fun c X h => (blk1 h.1.box2).1
    · rintro c X Y ⟨h, hx⟩ hk
      obtain ⟨r0, h0⟩ := h.lp
      have hlx := (Array.getElem?_eq_some_iff.1 h0).1
      refine ⟨h.kept hk hlo hR (fun b _ hne => hne) (fun b hb _ => by omega) ⟨r0, (hk.block _ hlx (by omega)).trans h0⟩, hLp X Y hx (hk.block _ (by omega) (by omega)) (hk.block _ hlx (by omega))⟩
    · rintro pre cb a X ⟨h, hx⟩ hPa hpl hszX
      refine (hY (pre, a) cb X hx ⟨hpl, h, hPa⟩ (by omega)).mono ?_
      rintro e W' (⟨rfl, hl', c, b, h1, h2, h3⟩ | ⟨rfl, hl', h6, h5⟩)
      · exact .inl ⟨rfl, ⟨c, b, h1, ⟨h2, hl'⟩, h3⟩, by obtain ⟨r0, h0⟩ := h2.lp; have := (Array.getElem?_eq_some_iff.1 h0).1; omega⟩
      · exact .inr ⟨rfl, h6, hl', h5⟩
    · rintro e W' ⟨⟨v0, rfl⟩, ⟨ps, b, h1, ⟨h2, h3⟩, h4⟩ | ⟨h1, h2, h3⟩⟩
      · exact ⟨⟨_, rfl⟩, .inl ⟨h3, ps, b, h1, h2, h4⟩⟩
      · exact ⟨⟨_, rfl⟩, .inr ⟨h2, h1, h3⟩⟩
  case done =>
    rintro W ⟨ps, b, hv, hK, hPb⟩ hdf
    obtain ⟨u, hu⟩ := hK.su
    obtain ⟨qu, cu, rfl⟩ := hu.row.form
    have c0 := (blk1 hu.blk).1
    obtain ⟨z0, f0⟩ := blk1 hK.r1
    obtain ⟨y0, g0⟩ := blk1 hK.r2
    have hk0 : Kept (fun b => b ≠ w.heap.size + 1 ∧ b ≠ w.heap.size + 1 + 1) W ((W.setCell ⟨w.heap.size + 1, 0, none⟩ (.slice qu ps.length cu)).setCell ⟨w.heap.size + 1 + 1, 0, none⟩ (.bool true)) := Kept.trans (Kept.of_grown (grown_set W (w.heap.size + 1) 0 (.slice qu ps.length cu)) (fun k e h => by cases e; exact h.1 rfl)) (Kept.of_grown (grown_set _ (w.heap.size + 1 + 1) 0 (.bool true)) (fun k e h => by cases e; exact h.2 rfl))
    have hB1 := (blk_set1 hK.r1 (.slice qu ps.length cu)).kept (grown_set (W.setCell ⟨w.heap.size + 1, 0, none⟩ (.slice qu ps.length cu)) (w.heap.size + 1 + 1) 0 (.bool true)) (by simp)
    have hB2 := blk_set1 (hK.r2.kept (grown_set W (w.heap.size + 1) 0 (.slice qu ps.length cu)) (by simp)) (.bool true)
    obtain ⟨Z, hZ⟩ : ∃ Z, (W.setCell ⟨w.heap.size + 1, 0, none⟩ (.slice qu ps.length cu)).setCell ⟨w.heap.size + 1 + 1, 0, none⟩ (.bool true) = Z := ⟨_, rfl⟩
    rw [hZ] at hk0 hB1 hB2
    have hll : w6.heap.size < W.heap.size := (Array.getElem?_eq_some_iff.1 hdf).1
    have hdz : Z.heap[w6.heap.size]? = some (.deferred (some [])) := (hk0.block _ hll ⟨by omega, by omega⟩).trans hdf
    have hkp := kept_putObj Z w6.heap.size (.deferred none)
    have hall : Kept (fun b => b ≠ w.heap.size + 1 ∧ b ≠ w.heap.size + 1 + 1 ∧ b ≠ w6.heap.size) W (Z.putObj w6.heap.size (.deferred none)) := (hk0.mono (fun b _ h => ⟨h.1, h.2.1⟩)).trans (hkp.mono (fun b _ h => h.2.2))
    have fr : Fr (fun b => w.heap.size + 1 + 1 + 1 ≤ b) (fun b => w.heap.size ≤ b) W (Z.putObj w6.heap.size (.deferred none)) := Fr.of_kept hall (fun b hb hcl => ⟨⟨by omega, by omega, fun e => by obtain ⟨cs, t, f, h, _⟩ := hcl; rw [e, hdf] at h; cases h⟩, by omega⟩)
    have hfin := PtsF.fr hu.done fr (fun _ _ h => SelsAt.fr d h fr)
    have hPz := hPb.kept hall ⟨by omega, by omega, by omega⟩ (fun b hb => ⟨by omega, by omega, by omega⟩)
    have hoz : But R w (Z.putObj w6.heap.size (.deferred none)) := (old_kept hK.old hall (fun b hb _ => ⟨by omega, by omega, by omega⟩)).mono (fun b hb h => ⟨h, hb⟩)
    replace hB1 := hkp.blk hB1 (by omega)
    replace hB2 := hkp.blk hB2 (by omega)
    have HV : Hid (V = some (ps, ts.drop b)) := hv
    clear hv hV hL hG hS hP hP6 hbw6 hO6 kB k1 k2 kX hSU6 hall hkp hk0 fr hK hu hPb
    gi_wp2
    refine ⟨by simp, .inl ⟨_, _, rfl, run_takeDeferred hdz, ?_⟩⟩
    refine ⟨_, results_cells rfl _ _ (w.heap.size + 1) (w.heap.size + 1 + 1) _ _ rfl rfl (load_sl hB1) (load_bool hB2), ?_⟩
    rw [← (show _ = _ from HQ)]
    exact ⟨.inl ⟨ps, b, _, HV, rfl, hfin, hPz⟩, hoz⟩
  case stop =>
    rintro W ⟨hv, hX⟩ hdf
    have hkp := kept_putObj W w6.heap.size (.deferred none)
    have hP3 : ∃ b, Rd n₀ (W.putObj w6.heap.size (.deferred none)) R v ts b (8 - (d : Int)) := hX.rd.elim fun b hb => ⟨b, hb.kept hkp (by omega) (fun c hc => by omega)⟩
    have hB1 := hkp.blk hX.r1 (by omega)
    have hB2 := hkp.blk hX.r2 (by omega)
    have hoz : But R w (W.putObj w6.heap.size (.deferred none)) := (old_kept hX.old hkp (fun b hb _ => by omega)).mono (fun b hb h => ⟨h, hb⟩)
    have HV : Hid (V = none) := hv
    clear hv hV hL hG hS hP hP6 hbw6 hO6 kB k1 k2 kX hSU6 hkp hX
    gi_wp2
    refine ⟨by simp, .inl ⟨_, _, rfl, run_takeDeferred hdf, ?_⟩⟩
    refine ⟨_, results_cells rfl _ _ (w.heap.size + 1) (w.heap.size + 1 + 1) _ _ rfl rfl (load_sl hB1) (load_bool hB2), ?_⟩
    rw [← (show _ = _ from HQ)]
    exact ⟨.inr ⟨HV, rfl, hP3⟩, hoz⟩

end Go.Proofs.YtkhgmobependiaaDoor.Sl

/- The reader of selectors: a list, and sel.Parse at every slice of tokens. -/
namespace Go.Proofs.YtkhgmobependiaaDoor.Sl
open Go.Proofs.YtkhgmobependiaaDoor.Tre
open Go Go.RowKit Go.Shelf

theorem list_none {L : Inner} {f : Nat} {pre : List Sel} {r : List Bt} (h : selV L r = none) : listF L f pre r = none := by
  cases f with
  | zero => rfl
  | succ f => simp only [listF, h, Option.bind_none]
theorem list_more {L : Inner} {f : Nat} {pre : List Sel} {ts : List Bt} {a b : Nat} {s : Sel} (hf : (ts.drop a).length < f) (h : selV L (ts.drop a) = some (s, ts.drop b)) (h2 : (at' ts b).kind = 13) : ∃ g, (ts.drop (b + 1)).length < g ∧ listF L f pre (ts.drop a) = listF L g (pre ++ [s]) (ts.drop (b + 1)) := by
  obtain ⟨f, rfl⟩ : ∃ g, f = g + 1 := ⟨f - 1, by omega⟩
  have h3 := selV_lt h
  have hl : b < ts.length := at_lt (by rw [h2]; decide)
  refine ⟨f, ?_, ?_⟩
  · simp only [List.length_drop] at h3 hf ⊢
    omega
  · simp only [listF, h, Option.bind_some]
    rw [at_cons hl]
    simp only [if_pos h2]
theorem list_end {L : Inner} {f : Nat} {pre : List Sel} {ts : List Bt} {a b : Nat} {s : Sel} (hf : (ts.drop a).length < f) (h : selV L (ts.drop a) = some (s, ts.drop b)) (h2 : ¬ (at' ts b).kind = 13) : listF L f pre (ts.drop a) = some (pre ++ [s], ts.drop b) := by
  obtain ⟨f, rfl⟩ : ∃ g, f = g + 1 := ⟨f - 1, by omega⟩
  simp only [listF, h, Option.bind_some]
  by_cases hl : b < ts.length
  · rw [at_cons hl]
    simp only [if_neg h2]
  · rw [List.drop_eq_nil_of_le (by omega)]
def SlTd (d : Nat) (P : Nat → Prop) (W : World) (c : List Value) (s : Sel) : Prop := SlT (SelsAt d P W) P W c s
theorem slT_stays (d : Nat) : Stays (SlTd d) := fun _ _ _ _ _ _ ⟨x, e, h⟩ f => ⟨x, e, PtsF.fr h f (fun _ _ hx => SelsAt.fr d hx f)⟩
def OffL (n : Nat) (v : Value) (b : Nat) : Prop := n ≤ b ∧ v.ownBlock ≠ some b
theorem infoSl3 : (Tryd.prog.info? 33).map (fun i => (i.zero, i.size, i.bytes)) = some (some (.agg #[.slice none 0 0]), 1, 24) := by kernel_rfl

set_option maxRecDepth 100000 in
set_option maxHeartbeats 4000000 in
theorem list_any (n₀ d : Nat) (hd : d ≤ 8) (hL : ∀ d', d = d' + 1 → ListOK n₀ d') : ListOK n₀ d := by
  intro R v ts a0 w hP hS hG
  have hR := hP.lt
  have hlo := hP.low
  have hlm := hP.most
  obtain ⟨i0, hi, hz0, hz1, hz2⟩ := info_parts infoSl3
  obtain ⟨V, hV⟩ : ∃ V, listV d (ts.drop a0) = V := ⟨_, rfl⟩
  rw [hV]
  rw [listV_eq] at hV
  have HS : Hid (∀ X a, But R w X → Rd n₀ X R v ts a (8 - (d : Int)) → Calls Tryd.prog 13 #[.pointer (some ⟨R, 0, none⟩)] X (SelOut n₀ R v ts d X (selV (innerV d) (ts.drop a)))) := fun X a hX hr => selector_any n₀ R v ts a d X hr (hS.kept hX hlo hR) hG hd hL
  clear hL
  go_enter Tryd.func9, Tryd.ntmps9
  go_wp2
  go_loopw [4, 5] (fun x y wr => (∃ (a f : Nat) (pre : List Sel) (out : Value), x = out ∧ y = .bool true ∧ (ts.drop a).length < f ∧ Hid (listF (innerV d) f pre (ts.drop a) = V) ∧ UndRow 33 1 (SlTd d) w.heap.size (OffL w.heap.size out) wr out pre ∧ pre.length ≤ a ∧ Rd n₀ wr R v ts a (8 - (d : Int)) ∧ But R w wr) ∨ (∃ (l : List Sel) (b : Nat) (out : Value), x = out ∧ y = .bool false ∧ Hid (V = some (l, ts.drop b)) ∧ UndRow 33 1 (SlTd d) w.heap.size (OffL w.heap.size out) wr out l ∧ Rd n₀ wr R v ts b (8 - (d : Int)) ∧ But R w wr)) (fun _ y wr => match y with | .bool true => ts.length + 1 - placeOf wr R | _ => 0)
  case atStart => exact .inl ⟨a0, _, [], _, rfl, rfl, Nat.lt_succ_self _, hV, UndRow.nil _ _ _ _ _ _, Nat.zero_le _, hP, Kept.refl _ _⟩
  case round =>
    clear hP hV hS
    rcases hrel with ⟨a, f, pre, out, rfl, rfl, hf, HV, hU, hpl, hPa, hbw⟩ | ⟨l, b, out, rfl, rfl, HV, hU, hPb, hbw⟩
    · have hal := hPa.least
      have hsw := hbw.size
      have h1 := (show ∀ X a, _ → _ → _ from HS) wr a hbw hPa
      generalize hSV : selV (innerV d) (ts.drop a) = SV at *
      obtain ⟨qo, co, rfl⟩ := hU.form
      go_wp2_with fail
      refine h1.mono ?_
      clear h1
      rintro e w1 ⟨hcs, hb1⟩
      have hb1w := hbw.trans hb1
      have hs1 := hb1.size
      have hR1 := hPa.lt
      rcases hcs with ⟨s, b, x, rfl, rfl, hx, hP1⟩ | ⟨rfl, rfl, b, hP1⟩
      · have hlt := selV_lt hSV
        have hlb := hP1.least
        simp only [List.length_drop] at hlt
        obtain ⟨qx, cx, rfl, _⟩ := FinRow.form hx
        have hfr1 : Fr (OffL w.heap.size (.slice qo pre.length co)) (OffL w.heap.size (.slice qo pre.length co)) wr w1 := Fr.of_kept hb1 (fun b hb _ => ⟨by have := hb.1; omega, hb⟩)
        have hU1 := hU.kept (slT_stays d) hfr1 (fun g hg => hb1.block g (hU.lt hg).2 (by have := (hU.lt hg).1; omega))
        have hg1 : ∀ g, (Value.slice qo pre.length co).ownBlock = some g → g < wr.heap.size := fun g hg => (hU.lt hg).2
        have b2 : Below w1.heap.size w1 (w1.alloc (.cells #[.slice qx s.length cx] 33)) := (Below.refl _ _).alloc (Nat.le_refl _) _
        have k2 : Blk (w1.alloc (.cells #[.slice qx s.length cx] 33)) w1.heap.size 33 [.slice qx s.length cx] := Blk.new w1 _ _
        go_upto_region 8 with fail
        generalize w1.alloc (.cells #[.slice qx s.length cx] 33) = w2 at *
        have c2 := (blk1 k2).1
        have b3 : Below w2.heap.size w2 (w2.alloc (.cells #[.slice qx s.length cx] 33)) := (Below.refl _ _).alloc (Nat.le_refl _) _
        have b13 := below_next b2 b3
        have hU3 := hU1.kept (slT_stays d) (Fr.of_below (P' := OffL w.heap.size (.slice qo pre.length co)) b13 (fun _ h _ => h)) (fun g hg => b13.block g (by have := hg1 g hg; omega))
        obtain ⟨css, r1, r2, r3, r4⟩ := hU3
        have hs3 : w1.heap.size ≤ (w2.alloc (.cells #[.slice qx s.length cx] 33)).heap.size := b13.size
        go_wp2_with (at_builtin; refine wpList_append_own_at _ rfl _ _ 24 rfl w.heap.size 33 i0 (.agg #[.slice none 0 0]) 1 24 Tryd.underlying24 hi hz0 hz1 hz2 rfl (by decide) (.slice qo pre.length co) _ _ rfl r1 ⟨w2.heap.size, 0, none⟩ 1 1 [.slice qx s.length cx] rfl rfl (cells_plain w2 [.slice qx s.length cx] _) (fun u hu => by simp at hu; subst hu; rfl) (by unfold maxLen; omega) (by omega) (by omega) ?_; intro v' w4 hown4 hgrow4 hnil4 hat4; obtain ⟨q4, c4, rfl⟩ := owns_form hown4)
        have hat : ∀ g, (Value.slice q4 (pre.length + 1) c4).ownBlock = some g → (Value.slice qo pre.length co).ownBlock = some g ∨ (w2.alloc (.cells #[.slice qx s.length cx] 33)).heap.size ≤ g := fun g hg => hat4.elim (fun h => .inl (by rw [← h]; exact hg)) (fun h => .inr (by rw [h] at hg; injection hg with hg; omega))
        have hsz4 := hgrow4.size
        have f1 : Fr (OffL w.heap.size (.slice qo pre.length co)) (OffL w.heap.size (.slice q4 (pre.length + 1) c4)) (w2.alloc (.cells #[.slice qx s.length cx] 33)) w4 := ⟨hsz4, fun g hg hl => ⟨hgrow4.block g hl.lt (fun e => hg.2 e.symm), hg.1, fun e => (hat g e).elim hg.2 (fun h => by have := hl.lt; omega)⟩⟩
        have f2 : Fr (fun b => wr.heap.size ≤ b) (OffL w.heap.size (.slice q4 (pre.length + 1) c4)) (w2.alloc (.cells #[.slice qx s.length cx] 33)) w4 := ⟨hsz4, fun g hg hl => ⟨hgrow4.block g hl.lt (fun e => by have := hg1 g e.symm; omega), by omega, fun e => (hat g e).elim (fun e => by have := hg1 g e; omega) (fun h => by have := hl.lt; omega)⟩⟩
        have f0 : Fr (fun b => wr.heap.size ≤ b) (fun b => wr.heap.size ≤ b) w1 (w2.alloc (.cells #[.slice qx s.length cx] 33)) := Fr.of_below b13 (fun _ h _ => h)
        have hxE := PtsF.fr (PtsF.fr hx f0 (fun _ _ h => SelsAt.fr d h f0)) f2 (fun _ _ h => SelsAt.fr d h f2)
        have hU4 : UndRow 33 1 (SlTd d) w.heap.size (OffL w.heap.size (.slice q4 (pre.length + 1) c4)) w4 (.slice q4 (pre.length + 1) c4) (pre ++ [s]) := und_push (slT_stays d) r2 r3 r4 rfl ⟨_, rfl, hxE⟩ f1 hown4
        have hk4 : But R w w4 := (hb1w.trans (.of_below b13)).grown hgrow4 (fun g e => .inl (by have := owns_lt r1 e; omega))
        have hP4 := (hP1.below b13).kept (keep := fun b => b ≤ R) (Kept.of_grown hgrow4 (fun g e h => by have := (owns_lt r1 e).1; omega)) (Nat.le_refl _) (fun b hb => by omega)
        clear hU1 r1 r2 r3 r4 hown4 hgrow4 hat hat4 hnil4 hx hxE f0 f1 f2 hfr1 hg1 c2 k2 b2 b3 b13 hs3 hP1 hb1 hU
        have h5 := passes_any n₀ R v ts b (8 - (d : Int)) 13 w4 hP4 (by decide)
        by_cases h13 : (at' ts b).kind = 13
        · obtain ⟨g, hg, hv⟩ := list_more (pre := pre) hf hSV h13
          have hbl : b < ts.length := at_lt (by rw [h13]; decide)
          rw [decide_eq_true h13, if_pos h13] at h5
          rw [show _ = V from HV] at hv
          have HV' : Hid (listF (innerV d) g (pre ++ [s]) (ts.drop (b + 1)) = V) := hv.symm
          clear HV hv hSV h13
          go_wp2_with fail
          refine h5.mono ?_
          clear h5
          rintro e w5 ⟨rfl, hP5, hb5⟩
          have hU5 := hU4.kept (slT_stays d) (Fr.of_kept (P' := OffL w.heap.size (.slice q4 (pre.length + 1) c4)) hb5 (fun g hg _ => ⟨by have := hg.1; omega, hg⟩)) (fun g hg => hb5.block g (hU4.lt hg).2 (by have := (hU4.lt hg).1; omega))
          have hpl5 : (pre ++ [s]).length ≤ b + 1 := by rw [List.length_append]; simp; omega
          go_wp2
          refine ⟨.inl ⟨b + 1, g, pre ++ [s], _, rfl, rfl, hg, HV', hU5, hpl5, hP5, hk4.trans hb5⟩, ?_⟩
          show ts.length + 1 - placeOf _ R < ts.length + 1 - placeOf _ R
          rw [hP5.place, hPa.place]
          omega
        · have hv := list_end (pre := pre) hf hSV h13
          rw [decide_eq_false h13, if_neg h13] at h5
          rw [show _ = V from HV] at hv
          have HV' : Hid (V = some (pre ++ [s], ts.drop b)) := hv
          clear HV hv hSV h13
          go_wp2_with fail
          refine h5.mono ?_
          clear h5
          rintro e w5 ⟨rfl, hP5, hb5⟩
          have hU5 := hU4.kept (slT_stays d) (Fr.of_kept (P' := OffL w.heap.size (.slice q4 (pre.length + 1) c4)) hb5 (fun g hg _ => ⟨by have := hg.1; omega, hg⟩)) (fun g hg => hb5.block g (hU4.lt hg).2 (by have := (hU4.lt hg).1; omega))
          go_wp2
          refine ⟨.inr ⟨pre ++ [s], b, _, rfl, rfl, HV', hU5, hP5, hk4.trans hb5⟩, ?_⟩
          show 0 < ts.length + 1 - placeOf _ R
          rw [hPa.place]
          omega
      · have hv := list_none (f := f) (pre := pre) hSV
        rw [show _ = V from HV] at hv
        clear HV HS hSV hU
        have b2 : Below w1.heap.size w1 (w1.alloc (.cells #[nilS] 33)) := (Below.refl _ _).alloc (Nat.le_refl _) _
        have HV' : Hid (V = none) := hv
        clear hv
        go_wp2
        go_ret2
        exact ⟨.inr ⟨HV', rfl, b, hP1.below b2⟩, hb1w.trans (.of_below b2)⟩
    · clear HS
      have hfin0 := UndRow.done (P' := fun b => w.heap.size ≤ b) hU (by decide) (slT_stays d) (fun _ h => h.1) (fun g hg => (hU.lt hg).1)
      have hfin : SelsAt (d + 1) (fun b => w.heap.size ≤ b) wr _ l := hfin0
      go_wp2
      go_ret2
      exact ⟨.inl ⟨l, b, _, HV, rfl, hfin, hPb⟩, hbw⟩

/-- A list is read right, however deep it may go. -/
theorem list_all (n₀ : Nat) : ∀ d, d ≤ 8 → ListOK n₀ d
  | 0, h => list_any n₀ 0 h (fun _ e => by cases e)
  | d + 1, h => list_any n₀ (d + 1) h (fun d' e => by cases e; exact list_all n₀ d (by omega))

theorem parse_long {ts : List Bt} (h : 1000 < ts.length) : parseV ts = none := by unfold parseV; rw [if_pos h]
theorem parse_short {ts : List Bt} (h : ¬ 1000 < ts.length) : parseV ts = match listV 8 ts with
  | some (l, []) => some l
  | _ => none := by
  unfold parseV
  rw [if_neg h]
  rfl

set_option maxRecDepth 100000 in
set_option maxHeartbeats 2000000 in
/-- sel.Parse AT EVERY SLICE OF TOKENS. -/
theorem parse_any (v : Value) (ts : List Bt) (w : World) (hv : BtsAt w.heap.size w v ts) (hS : OpsAt w.heap.size w) (hG : Good ts) :
    Calls Tryd.prog 6 #[v] w fun e w' => ((∃ l x, parseV ts = some l ∧ e = .returned (.tuple #[x, .bool true]) ∧ SelsAt 9 (fun b => w.heap.size ≤ b) w' x l) ∨ (parseV ts = none ∧ e = .returned (.tuple #[nilS, .bool false]))) ∧ Below w.heap.size w w' := by
  have hsh := hv.short
  obtain ⟨q, cap, rfl⟩ := hv.len
  obtain ⟨V, hV⟩ : ∃ V, parseV ts = V := ⟨_, rfl⟩
  rw [hV]
  by_cases hlong : 1000 < ts.length
  · rw [parse_long hlong] at hV
    subst hV
    have hli : (1000 : Int) < (ts.length : Int) := by omega
    go_enter Tryd.func6, Tryd.ntmps6
    go_wp2
    go_ret2
    first
    | exact ⟨.inr ⟨rfl, rfl⟩, Below.refl _ _⟩
    | exact ⟨.inr ⟨trivial, rfl⟩, Below.refl _ _⟩
  · rw [parse_short hlong] at hV
    have hli : ¬ (1000 : Int) < (ts.length : Int) := by omega
    have b0 : Below w.heap.size w (w.alloc (.cells #[.slice q ts.length cap, .int .i64 0, .int .i64 0] 43)) := (Below.refl _ _).alloc (Nat.le_refl _) _
    have hP0 : Rd w.heap.size (w.alloc (.cells #[.slice q ts.length cap, .int .i64 0, .int .i64 0] 43)) w.heap.size (.slice q ts.length cap) ts 0 (8 - ((8 : Nat) : Int)) := ⟨Blk.new w 43 _, hv.below b0, Nat.le_refl _, Nat.zero_le _, by omega⟩
    have hO0 : OpsAt w.heap.size _ := hS.below b0
    have h1 := list_all w.heap.size 8 (Nat.le_refl _) w.heap.size (.slice q ts.length cap) ts 0 _ hP0 hO0 hG
    rw [List.drop_zero] at h1
    have hs0 : w.heap.size ≤ (w.alloc (.cells #[.slice q ts.length cap, .int .i64 0, .int .i64 0] 43)).heap.size := by rw [World.size_alloc]; omega
    clear hP0 hO0
    go_enter Tryd.func6, Tryd.ntmps6
    go_upto_region 4 with fail
    generalize w.alloc (.cells #[.slice q ts.length cap, .int .i64 0, .int .i64 0] 43) = W at *
    go_wp2_with fail
    refine h1.mono ?_
    clear h1
    rintro e w1 ⟨hcs, hb1⟩
    have hbw : Below w.heap.size w w1 := ((Kept.of_below (keep := fun b => b ≠ w.heap.size) b0).trans hb1).below (Nat.le_refl _) (fun b hb => by omega)
    rcases hcs with ⟨l, b, x, hlv, rfl, hx, hP1⟩ | ⟨hlv, rfl, b, hP1⟩
    · rw [hlv] at hV
      have hlb := hP1.least
      obtain ⟨px, cx, rfl⟩ := hx.form
      obtain ⟨⟨p0, p1, p2⟩, _⟩ := blk3 hP1.blk
      have hxx := SelsAt.fr 9 hx (⟨Nat.le_refl _, fun b hb _ => ⟨rfl, by omega⟩⟩ : Fr (fun b => W.heap.size ≤ b) (fun b => w.heap.size ≤ b) w1 w1)
      clear hlv hx
      by_cases hlt : b < ts.length
      · have hbi : (b : Int) < (ts.length : Int) := by omega
        rw [at_cons hlt] at hV
        have HV : Hid (V = none) := hV.symm
        clear hV
        go_wp2
        go_ret2
        exact ⟨.inr ⟨HV, rfl⟩, hbw⟩
      · have hbi : ¬ (b : Int) < (ts.length : Int) := by omega
        rw [List.drop_eq_nil_of_le (by omega)] at hV
        have HV : Hid (V = some l) := hV.symm
        clear hV
        go_wp2
        go_ret2
        exact ⟨.inl ⟨l, _, HV, rfl, hxx⟩, hbw⟩
    · rw [hlv] at hV
      have HV : Hid (V = none) := hV.symm
      clear hV hlv
      go_wp2
      go_ret2
      exact ⟨.inr ⟨HV, rfl⟩, hbw⟩

end Go.Proofs.YtkhgmobependiaaDoor.Sl
