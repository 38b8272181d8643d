/- The reader of selectors: one compound. -/
import Derived.Test.YtkhgmobependiaaDoorSlUs
namespace Go.Proofs.YtkhgmobependiaaDoor.Sl
open Go.Proofs.YtkhgmobependiaaDoor.Tre
open Go Go.RowKit Go.Shelf
attribute [local go_sem] Oper.semAt_some

theorem infoCp : (Tryd.prog.info? 38).map (·.size) = some 5 := by kernel_rfl
theorem load_cp {w : World} {g : Nat} {a b c d e : Value} (h : Blk w g 38 [a, b, c, d, e]) : (loadVar 38 ⟨g, 0, none⟩).run Tryd.prog w = .ok (.agg #[a, b, c, d, e]) w :=
  run_loadVar_row w g _ 38 #[a, b, c, d, e] (0, 0) _ h Tryd.underlying38 rfl infoCp
theorem load_bool {w : World} {g : Nat} {b : Bool} (h : Blk w g 4 [.bool b]) : (loadVar 4 ⟨g, 0, none⟩).run Tryd.prog w = .ok (.bool b) w := by
  have hc := (blk1 h).1
  simp [loadVar, isAgg, Sem.run_bind, Result.andThen, load, hc, Sem.run]
theorem results_cells {fn : Func} {p q : Tmp} {ty ty2 : TypeId} (h : fn.results = #[.cell p ty, .cell q ty2]) (tmps : Array Value) (w : World) (g g2 : Nat) (x y : Value)
    (hp : tmps.getD p undef = .pointer (some ⟨g, 0, none⟩)) (hq : tmps.getD q undef = .pointer (some ⟨g2, 0, none⟩)) (hl : (loadVar ty ⟨g, 0, none⟩).run Tryd.prog w = .ok x w) (hl2 : (loadVar ty2 ⟨g2, 0, none⟩).run Tryd.prog w = .ok y w) :
    (results fn tmps).run Tryd.prog w = .ok (.tuple #[x, y]) w := by
  have hp' : tmps[p]?.getD undef = .pointer (some ⟨g, 0, none⟩) := by simpa using hp
  have hq' : tmps[q]?.getD undef = .pointer (some ⟨g2, 0, none⟩) := by simpa using hq
  simp [results, h, hp', hq', asAddr, hl, hl2]
theorem egUnits : ∀ args w, (callFunc 50 args).run Tryd.prog w = .ok (.enter 50 args) w := enters_of Tryd.func50 (by kernel_rfl) rfl
theorem units_in (N R : Nat) (w : World) :
    CallsIn Fence.wide N Tryd.prog 41 #[.pointer (some ⟨R, 0, none⟩)] w fun e w' => e = .returned (.func (.func 50) #[] #[.pointer (some ⟨w.heap.size, 0, none⟩)]) ∧ w' = w.alloc (.cells #[.pointer (some ⟨R, 0, none⟩)] 49) := by
  refine callsIn_of_wp Tryd.func41 rfl trivial ?_ rfl
  simp only [Tryd.ntmps41, List.size_toArray, List.length_cons, List.length_nil, Nat.reduceAdd, Nat.reduceSub, Array.replicate_succ, Array.replicate_zero, List.push_toArray, List.append_toArray, List.nil_append, List.cons_append]
  gi_wp2
  go_ret
  exact ⟨rfl, rfl⟩
abbrev nilS : Value := .slice none 0 0
/-- What a compound hands back. -/
def CompOut (n₀ R : Nat) (v : Value) (ts : List Bt) (d : Nat) (w : World) (V : Option (Cp × List Bt)) (e : Ending) (w' : World) : Prop :=
  ((∃ c b i k a p, V = some (c, ts.drop b) ∧ e = .returned (.tuple #[.agg #[.string c.tag, i, k, a, p], .bool true]) ∧ CpT (SelsAt d (fun b => w.heap.size ≤ b) w') (fun b => w.heap.size ≤ b) w' [.string c.tag, i, k, a, p] c ∧ Rd n₀ w' R v ts b (8 - (d : Int))) ∨
    (V = none ∧ (∃ tg q1 m1 c1 q2 m2 c2 q3 m3 c3 q4 m4 c4, e = .returned (.tuple #[.agg #[.string tg, .slice q1 m1 c1, .slice q2 m2 c2, .slice q3 m3 c3, .slice q4 m4 c4], .bool false])) ∧ ∃ b, Rd n₀ w' R v ts b (8 - (d : Int)))) ∧ But R w w'

/-- What lies while a compound's units are read: c in C, the boxes, the results, the loop. -/
structure CompK (d n₀ R : Nat) (w : World) (C l : Nat) (c : Cp) (X : World) : Prop where
  cu : CU d C X C c
  cge : w.heap.size + 1 + 1 < C
  box : Blk X w.heap.size 49 [.pointer (some ⟨R, 0, none⟩)]
  r1 : Blk X (w.heap.size + 1) 38 [.string ⟨#[]⟩, nilS, nilS, nilS, nilS]
  r2 : Blk X (w.heap.size + 1 + 1) 4 [.bool false]
  box2 : Blk X (C + 1) 49 [.pointer (some ⟨R, 0, none⟩)]
  ops : OpsAt n₀ X
  old : Kept (fun b => b ≠ R ∧ b < w.heap.size) w X
  lp : ∃ r, X.heap[l]? = some (.loop r)
/-- What lies where a unit was none. -/
structure CompX (n₀ R : Nat) (v : Value) (ts : List Bt) (d : Nat) (w : World) (X : World) : Prop where
  r1 : Blk X (w.heap.size + 1) 38 [.string ⟨#[]⟩, nilS, nilS, nilS, nilS]
  r2 : Blk X (w.heap.size + 1 + 1) 4 [.bool false]
  old : Kept (fun b => b ≠ R ∧ b < w.heap.size) w X
  rd : ∃ b, Rd n₀ X R v ts b (8 - (d : Int))
theorem old_kept {R : Nat} {w X Y : World} (h : Kept (fun b => b ≠ R ∧ b < w.heap.size) w X) {keep : Nat → Prop} (hk : Kept keep X Y) (hold : ∀ b, b < w.heap.size → b ≠ R → keep b) : Kept (fun b => b ≠ R ∧ b < w.heap.size) w Y := h.trans (hk.mono (fun b _ hb => hold b hb.2 hb.1))
/-- It stays where none but the reader's block, loops' blocks and blocks of tokens turn. -/
theorem CompK.kept {d n₀ R : Nat} {w : World} {C l : Nat} {c : Cp} {X Y : World} (h : CompK d n₀ R w C l c X) {keep : Nat → Prop} (hk : Kept keep X Y) (hn₀ : n₀ ≤ R) (hRw : R < w.heap.size) (hold : ∀ b, b < w.heap.size → b ≠ R → keep b) (hnew : ∀ b, w.heap.size ≤ b → Cl X b → keep b) (hl : ∃ r, Y.heap[l]? = some (.loop r)) : CompK d n₀ R w C l c Y := by
  obtain ⟨i, k, a, p, hc⟩ := h.cu
  have hC := h.cge
  refine ⟨⟨i, k, a, p, hc.kept hk (fun b hb => hnew b (by omega))⟩, h.cge, hk.blk h.box (hnew _ (Nat.le_refl _) (h.box.cl (by decide))), hk.blk h.r1 (hnew _ (by omega) (h.r1.cl (by decide))), hk.blk h.r2 (hnew _ (by omega) (h.r2.cl (by decide))), hk.blk h.box2 (hnew _ (by omega) (h.box2.cl (by decide))), h.ops.below (hk.below ?_ (fun b hb => hold b (by omega) (by omega))), old_kept h.old hk hold, hl⟩
  have := h.old.size
  omega
theorem CompX.kept {n₀ R : Nat} {v : Value} {ts : List Bt} {d : Nat} {w X Y : World} (h : CompX n₀ R v ts d w X) {keep : Nat → Prop} (hk : Kept keep X Y) (hn₀ : n₀ ≤ R) (hRw : R < w.heap.size) (hold : ∀ b, b < w.heap.size + 3 → keep b) : CompX n₀ R v ts d w Y :=
  ⟨hk.blk h.r1 (hold _ (by omega)), hk.blk h.r2 (hold _ (by omega)), old_kept h.old hk (fun b hb _ => hold b (by omega)), h.rd.elim fun b hb => ⟨b, hb.kept hk (hold _ (by omega)) (fun c hc => hold c (by omega))⟩⟩
theorem plain_blk {n : Nat} {W : World} {b : Nat} {t : TypeId} {cs : List Value} (h : Blk W b t cs) (h1 : t ≠ 9) (h2 : t ≠ 87) (h3 : t ≠ 26) : PlainB n W b :=
  .inr ⟨_, h, fun _ _ => ⟨fun e => by injection e with _ e2; exact h1 e2, fun e => by injection e with _ e2; exact h2 e2, fun e => by injection e with _ e2; exact h3 e2⟩⟩
theorem plain_obj {n : Nat} {W : World} {b : Nat} {o : Obj} (h : W.heap[b]? = some o) (ho : ∀ c e f, o ≠ .cells c e f) : PlainB n W b := .inr ⟨_, h, fun _ _ => ⟨ho _ _ _, ho _ _ _, ho _ _ _⟩⟩
theorem comp_yes {L : Inner} {ts : List Bt} {a0 b0 b : Nat} {tg : ByteArray} {c : Cp} (h1 : (tagV (ts.drop a0)).1 = tg) (h2 : (tagV (ts.drop a0)).2 = ts.drop b0) (h : unitsV L ((ts.drop a0).length + 1) (.mk tg [] [] [] []) (ts.drop b0) = some (c, ts.drop b)) (hb : b ≤ ts.length) (hlt : a0 < b) : compV L (ts.drop a0) = some (c, ts.drop b) := by
  unfold compV
  rw [h1, h2, h]
  simp only [Option.bind_some, List.length_drop]
  rw [if_pos (by omega)]
theorem comp_no {L : Inner} {ts : List Bt} {a0 b0 b : Nat} {tg : ByteArray} {c : Cp} (h1 : (tagV (ts.drop a0)).1 = tg) (h2 : (tagV (ts.drop a0)).2 = ts.drop b0) (h : unitsV L ((ts.drop a0).length + 1) (.mk tg [] [] [] []) (ts.drop b0) = some (c, ts.drop b)) (hlt : ¬ a0 < b) : compV L (ts.drop a0) = none := by
  unfold compV
  rw [h1, h2, h]
  simp only [Option.bind_some, List.length_drop]
  rw [if_neg (by omega)]
theorem comp_none {L : Inner} {ts : List Bt} {a0 b0 : Nat} {tg : ByteArray} (h1 : (tagV (ts.drop a0)).1 = tg) (h2 : (tagV (ts.drop a0)).2 = ts.drop b0) (h : unitsV L ((ts.drop a0).length + 1) (.mk tg [] [] [] []) (ts.drop b0) = none) : compV L (ts.drop a0) = none := by
  unfold compV
  rw [h1, h2, h]
  rfl

set_option maxHeartbeats 2000000 in
/-- Behind the stores of the results. -/
theorem comp_end {d n₀ R : Nat} {w : World} {C l : Nat} {c : Cp} {W : World} {v : Value} {ts : List Bt} {b : Nat} {i k a p : Value} (lo : Nat) (hK : CompK d n₀ R w C l c W) (hc : CUx d C W C c i k a p) (hPb : Rd n₀ W R v ts b (8 - (d : Int))) (hdf : W.heap[lo]? = some (.deferred (some []))) (hR : R < w.heap.size) (hlo : C < lo) (hC : w.heap.size + 1 + 1 < C) (B : Bool) :
    ((set5 W (w.heap.size + 1) (.string c.tag) i k a p).setCell ⟨w.heap.size + 1 + 1, 0, none⟩ (.bool B)).drew.heap[lo]? = some (.deferred (some [])) ∧
    Blk (((set5 W (w.heap.size + 1) (.string c.tag) i k a p).setCell ⟨w.heap.size + 1 + 1, 0, none⟩ (.bool B)).drew.putObj lo (.deferred none)) (w.heap.size + 1) 38 [.string c.tag, i, k, a, p] ∧
    Blk (((set5 W (w.heap.size + 1) (.string c.tag) i k a p).setCell ⟨w.heap.size + 1 + 1, 0, none⟩ (.bool B)).drew.putObj lo (.deferred none)) (w.heap.size + 1 + 1) 4 [.bool B] ∧
    But R w (((set5 W (w.heap.size + 1) (.string c.tag) i k a p).setCell ⟨w.heap.size + 1 + 1, 0, none⟩ (.bool B)).drew.putObj lo (.deferred none)) ∧
    CpT (SelsAt d (fun b => w.heap.size ≤ b) (((set5 W (w.heap.size + 1) (.string c.tag) i k a p).setCell ⟨w.heap.size + 1 + 1, 0, none⟩ (.bool B)).drew.putObj lo (.deferred none))) (fun b => w.heap.size ≤ b) (((set5 W (w.heap.size + 1) (.string c.tag) i k a p).setCell ⟨w.heap.size + 1 + 1, 0, none⟩ (.bool B)).drew.putObj lo (.deferred none)) [.string c.tag, i, k, a, p] c ∧
    Rd n₀ (((set5 W (w.heap.size + 1) (.string c.tag) i k a p).setCell ⟨w.heap.size + 1 + 1, 0, none⟩ (.bool B)).drew.putObj lo (.deferred none)) R v ts b (8 - (d : Int)) ∧ True := by
  have hlo2 := hPb.low
  have hk0 : Kept (fun b => b ≠ w.heap.size + 1 ∧ b ≠ w.heap.size + 1 + 1) W ((set5 W (w.heap.size + 1) (.string c.tag) i k a p).setCell ⟨w.heap.size + 1 + 1, 0, none⟩ (.bool B)) :=
    Kept.trans (Kept.of_grown (grown_set5 W (w.heap.size + 1) (.string c.tag) i k a p) (fun k e h => by cases e; exact h.1 rfl)) (Kept.of_grown (grown_set _ (w.heap.size + 1 + 1) 0 (.bool B)) (fun k e h => by cases e; exact h.2 rfl))
  have hB10 : Blk ((set5 W (w.heap.size + 1) (.string c.tag) i k a p).setCell ⟨w.heap.size + 1 + 1, 0, none⟩ (.bool B)) (w.heap.size + 1) 38 [.string c.tag, i, k, a, p] :=
    (blk_set5 hK.r1 (.string c.tag) i k a p).kept (grown_set (set5 W (w.heap.size + 1) (.string c.tag) i k a p) (w.heap.size + 1 + 1) 0 (.bool B)) (by simp)
  have hB20 : Blk ((set5 W (w.heap.size + 1) (.string c.tag) i k a p).setCell ⟨w.heap.size + 1 + 1, 0, none⟩ (.bool B)) (w.heap.size + 1 + 1) 4 [.bool B] :=
    blk_set1 (hK.r2.kept (grown_set5 W (w.heap.size + 1) (.string c.tag) i k a p) (by simp)) (.bool B)
  generalize (set5 W (w.heap.size + 1) (.string c.tag) i k a p).setCell ⟨w.heap.size + 1 + 1, 0, none⟩ (.bool B) = Z0 at *
  have hkz := hk0.drew
  have hB1 : Blk Z0.drew _ _ _ := hB10
  have hB2 : Blk Z0.drew _ _ _ := hB20
  generalize Z0.drew = Z at *
  have hll : lo < W.heap.size := (Array.getElem?_eq_some_iff.1 hdf).1
  have hdz : Z.heap[lo]? = some (.deferred (some [])) := (hkz.block lo hll ⟨by omega, by omega⟩).trans hdf
  have hkp := kept_putObj Z lo (.deferred none)
  have hall : Kept (fun b => b ≠ w.heap.size + 1 ∧ b ≠ w.heap.size + 1 + 1 ∧ b ≠ lo) W (Z.putObj lo (.deferred none)) := (hkz.mono (fun b _ h => ⟨h.1, h.2.1⟩)).trans (hkp.mono (fun b _ h => h.2.2))
  have fr : Fr (fun b => C ≤ b) (fun b => w.heap.size ≤ b) W (Z.putObj lo (.deferred none)) := Fr.of_kept hall (fun b hb hcl => ⟨⟨by omega, by omega, fun e => by obtain ⟨cs, t, f, h, _⟩ := hcl; rw [e, hdf] at h; cases h⟩, by omega⟩)
  exact ⟨hdz, hkp.blk hB1 (by omega), hkp.blk hB2 (by omega), (old_kept hK.old hall (fun b hb _ => ⟨by omega, by omega, by omega⟩)).mono (fun b hb h => ⟨h, hb⟩), hc.done.fr fr (fun _ _ h => SelsAt.fr d h fr), hPb.kept hall ⟨by omega, by omega, by omega⟩ (fun b hb => ⟨by omega, by omega, by omega⟩), trivial⟩

set_option maxRecDepth 100000 in
set_option maxHeartbeats 4000000 in
theorem compound_any (n₀ R : Nat) (v : Value) (ts : List Bt) (a0 : Nat) (d : Nat) (w : World) (hP : Rd n₀ w R v ts a0 (8 - (d : Int))) (hS : OpsAt n₀ w) (hG : Good ts) (hd : d ≤ 8) (hL : ∀ d', d = d' + 1 → ListOK n₀ d') :
    Calls Tryd.prog 27 #[.pointer (some ⟨R, 0, none⟩)] w (CompOut n₀ R v ts d w (compV (innerV d) (ts.drop a0))) := by
  have hR := hP.lt
  have hlo := hP.low
  have hlm := hP.most
  have hal0 := hP.least
  obtain ⟨Q, hQ⟩ : ∃ Q, CompOut n₀ R v ts d w (compV (innerV d) (ts.drop a0)) = Q := ⟨_, rfl⟩
  rw [hQ]
  refine (callsIn_wide (n := 2)).1 ?_
  refine callsIn_of_wp_marks Tryd.func27 rfl trivial ?_ rfl
  simp only [Tryd.ntmps27, List.size_toArray, List.length_cons, List.length_nil, Nat.reduceAdd, Nat.reduceSub, Array.replicate_succ, Array.replicate_zero, List.push_toArray, List.append_toArray, List.nil_append, List.cons_append]
  obtain ⟨w3, hw3⟩ : ∃ w3, ((w.alloc (.cells #[.pointer (some ⟨R, 0, none⟩)] 49)).alloc (.cells #[.string ⟨#[]⟩, nilS, nilS, nilS, nilS] 38)).alloc (.cells #[.bool false] 4) = w3 := ⟨_, rfl⟩
  have hs3 : w3.heap.size = w.heap.size + 3 := by rw [← hw3]; simp
  have hB3 : Below w.heap.size w w3 := by rw [← hw3]; exact (((Below.refl _ w).alloc (Nat.le_refl _) _).alloc (by simp) _).alloc (by simp; omega) _
  have kB : Blk w3 w.heap.size 49 [.pointer (some ⟨R, 0, none⟩)] := by
    rw [← hw3]
    exact ((Blk.new w 49 _).kept (World.grownBy_alloc _ _ none) (by simp)).kept (World.grownBy_alloc _ _ none) (by simp)
  have k1 : Blk w3 (w.heap.size + 1) 38 [.string ⟨#[]⟩, nilS, nilS, nilS, nilS] := by
    rw [← hw3]
    have := (Blk.new (w.alloc (.cells #[.pointer (some ⟨R, 0, none⟩)] 49)) 38 [.string ⟨#[]⟩, nilS, nilS, nilS, nilS]).kept (World.grownBy_alloc _ (.cells #[.bool false] 4) none) (by simp)
    rwa [World.size_alloc] at this
  have k2 : Blk w3 (w.heap.size + 1 + 1) 4 [.bool false] := by
    rw [← hw3]
    have := Blk.new ((w.alloc (.cells #[.pointer (some ⟨R, 0, none⟩)] 49)).alloc (.cells #[.string ⟨#[]⟩, nilS, nilS, nilS, nilS] 38)) 4 [.bool false]
    rwa [World.size_alloc, World.size_alloc] at this
  have hP3 := hP.below hB3
  have cB := (blk1 kB).1
  obtain ⟨⟨p0, p1, p2⟩, _⟩ := blk3 hP3.blk
  gi_wp2_with fail
  refine ⟨trivial, ?_⟩
  clear hw3 cB p0 p1 p2
  have htg := tag_any n₀ R v ts a0 (8 - (d : Int)) w3 hP3 hG
  obtain ⟨tg, htg1⟩ : ∃ tg, (tagV (ts.drop a0)).1 = tg := ⟨_, rfl⟩
  rw [htg1] at htg
  refine (callsIn_wide.2 htg).mono ?_
  clear htg
  rintro e w4 ⟨rfl, ⟨b0, htd, hab0, hP4⟩, hb4⟩
  replace kB := hb4.blk kB (by omega)
  replace k1 := hb4.blk k1 (by omega)
  replace k2 := hb4.blk k2 (by omega)
  have hbw4 : But R w w4 := (Kept.of_below hB3).trans hb4
  have hs4 := k2.lt
  have bC : Below w4.heap.size w4 (w4.alloc (.cells #[.string tg, nilS, nilS, nilS, nilS] 38)) := (Below.refl _ _).alloc (Nat.le_refl _) _
  have hCU := CUx.new d w4.heap.size w4 tg (Nat.le_refl _)
  have hP5 := hP4.below bC
  have hbw5 : But R w _ := hbw4.trans (.of_below bC)
  replace kB := kB.below bC kB.lt
  replace k1 := k1.below bC k1.lt
  replace k2 := k2.below bC hs4
  have hR4 := hP4.lt
  have hs5 : (w4.alloc (.cells #[.string tg, nilS, nilS, nilS, nilS] 38)).heap.size = w4.heap.size + 1 := World.size_alloc _ _
  have cB := (blk1 kB).1
  gi_wp2_with fail
  refine ⟨trivial, ?_⟩
  generalize w4.alloc (.cells #[.string tg, nilS, nilS, nilS, nilS] 38) = w5 at *
  refine (units_in _ R w5).mono ?_
  rintro e w6 ⟨rfl, hw6⟩
  have b6 : Below w5.heap.size w5 w6 := by rw [hw6]; exact (Below.refl _ _).alloc (Nat.le_refl _) _
  have kX : Blk w6 w5.heap.size 49 [.pointer (some ⟨R, 0, none⟩)] := by rw [hw6]; exact Blk.new w5 _ _
  have hs6 : w6.heap.size = w5.heap.size + 1 := by rw [hw6]; exact World.size_alloc _ _
  replace kB := kB.below b6 kB.lt
  replace k1 := k1.below b6 k1.lt
  replace k2 := k2.below b6 k2.lt
  have hCU6 := hCU.below b6
  have hP6 := hP5.below b6
  have hbw6 : But R w w6 := hbw5.trans (.of_below b6)
  have hO6 := hS.kept hbw6 hlo hR
  clear hw6 hCU hP5 hbw5 b6 bC hB3 hP3 hP4 hb4 hbw4 cB
  have hfu : (ts.drop b0).length < (ts.drop a0).length + 1 := by rw [List.length_drop, List.length_drop]; omega
  have hCw : w4.heap.size < w6.heap.size := by omega
  gi_wp2_with fail
  rw [hs5] at kX hs6
  clear hs5
  generalize w4.heap.size = C at *
  have hs6' : C + 2 ≤ w6.heap.size := by omega
  clear hs6 hs3
  refine wpIn_rangeFunc_Q (σ := Cp × Nat × World) (α := Bt) rfl (by decide) (gf := 50) (lb := #[.pointer (some ⟨C + 1, 0, none⟩)]) rfl trivial egUnits (encs := fun t => #[tkV t]) (fun _ => rfl)
    (fun t W => W.alloc (.cells #[.int .i64 t.kind, .string t.text, .int .i64 t.n, .bool t.whole, .int .i64 t.c] 58)) (fun t W => (Below.refl _ _).alloc (Nat.le_refl _) _)
    (fun t W => { tmps := #[.pointer (some ⟨R, 0, none⟩), .pointer (some ⟨w.heap.size, 0, none⟩), .pointer (some ⟨w.heap.size + 1, 0, none⟩), .pointer (some ⟨w.heap.size + 1 + 1, 0, none⟩), .int .i64 a0, .pointer (some ⟨C, 0, none⟩), .pointer (some ⟨W.heap.size, 0, none⟩), .pointer (some ⟨R, 0, none⟩), .pointer (some ⟨R, 0, none⟩), .pointer (some ⟨R, 1, none⟩), .int .i64 a0, .pointer (some ⟨R, 0, none⟩), .string tg, .agg #[.string tg, .slice none 0 0, .slice none 0 0, .slice none 0 0, .slice none 0 0], .pointer (some ⟨R, 0, none⟩), .func (.func 50) #[] #[.pointer (some ⟨C + 1, 0, none⟩)], tkV t, undef, undef, undef, undef, undef, undef, undef, undef, undef, undef, undef, undef], defers := [] })
    (fun s x W => W = s.2.2 ∧ x = at' ts s.2.1 ∧ Small s.1 s.2.1 ∧ CompK d n₀ R w C (w6.heap.size + 1) s.1 W ∧ Rd n₀ W R v ts (s.2.1 + 1) (8 - (d : Int)))
    (fun s x W => (∃ c' b, unitV (innerV d) s.1 (at' ts s.2.1) (ts.drop (s.2.1 + 1)) = some (c', ts.drop b) ∧ CompK d n₀ R w C (w6.heap.size + 1) c' W ∧ Rd n₀ W R v ts b (8 - (d : Int))) ∧ Kept (fun b => IsTok s.2.2 b ∧ w6.heap.size + 2 ≤ b) s.2.2 W)
    (fun s _ W => unitV (innerV d) s.1 (at' ts s.2.1) (ts.drop (s.2.1 + 1)) = none ∧ CompX n₀ R v ts d w W)
    (fun W => unitsV (innerV d) ((ts.drop a0).length + 1) (.mk tg [] [] [] []) (ts.drop b0) = none ∧ CompX n₀ R v ts d w W)
    (fun W => ∃ c' b, unitsV (innerV d) ((ts.drop a0).length + 1) (.mk tg [] [] [] []) (ts.drop b0) = some (c', ts.drop b) ∧ CompK d n₀ R w C (w6.heap.size + 1) c' W ∧ Rd n₀ W R v ts b (8 - (d : Int)))
    ?hPost ?hStop ?hStopD ?hDone ?assign ?body ?call ?done ?stop
  case hPost =>
    rintro ⟨c, a, X0⟩ x X r ⟨⟨c', b, h1, h2, h3⟩, h4⟩ hlt
    have hk := kept_putObj X (w6.heap.size + 1) (.loop r)
    have hR3 := h3.lt
    exact ⟨⟨c', b, h1, h2.kept hk hlo hR (fun b hb _ => by omega) (fun b _ hb e => by obtain ⟨r0, h0⟩ := h2.lp; obtain ⟨cs, t, f, hc, _⟩ := hb; rw [e, h0] at hc; cases hc) ⟨r, World.putObj_heap_same hlt⟩, h3.kept hk (by omega) (fun b hb => by omega)⟩, h4.trans (hk.mono (fun b _ hb => by have := hb.2; omega))⟩
  case hStop =>
    rintro s x X r ⟨h0, h⟩ hlt
    exact ⟨h0, h.kept (kept_putObj X (w6.heap.size + 1) (.loop r)) hlo hR (fun b hb => by omega)⟩
  case hStopD =>
    rintro X r ⟨h0, h⟩ hlt
    exact ⟨h0, h.kept (kept_putObj X (w6.heap.size + 1) (.loop r)) hlo hR (fun b hb => by omega)⟩
  case hDone =>
    rintro X r ⟨c', b, h1, h2, h3⟩ hlt
    have hk := kept_putObj X (w6.heap.size + 1) (.loop r)
    exact ⟨c', b, h1, h2.kept hk hlo hR (fun b hb _ => by omega) (fun b _ hb e => by obtain ⟨r0, h0⟩ := h2.lp; obtain ⟨cs, t, f, hc, _⟩ := hb; rw [e, h0] at hc; cases hc) ⟨r, World.putObj_heap_same hlt⟩, h3.kept hk (by omega) (fun b hb => by omega)⟩
  case assign =>
    intro l x X K hK
    unfold tkV
    gi_wp2
    exact hK
  case body =>
    rintro l' ⟨c, a, X0⟩ x W0 W ⟨rfl, rfl, hsm, hK, hPa⟩ hsz ⟨r, hW⟩ hdf ⟨r', hlp⟩
    have hal := hPa.least
    have hW0 : C < W0.heap.size ∧ w.heap.size + 2 < W0.heap.size := ⟨by obtain ⟨_, _, _, _, hc⟩ := hK.cu; exact hc.blk.lt, hK.r2.lt⟩
    obtain ⟨bt, kF⟩ := tok_new W0 (at' ts a)
    have hk1 : Kept (fun b => b ≠ w6.heap.size + 1) (W0.alloc (.cells #[.int .i64 (at' ts a).kind, .string (at' ts a).text, .int .i64 (at' ts a).n, .bool (at' ts a).whole, .int .i64 (at' ts a).c] 58)) W := by rw [hW]; exact kept_putObj _ _ _
    have hKa : CompK d n₀ R w C (w6.heap.size + 1) c (W0.alloc (.cells #[.int .i64 (at' ts a).kind, .string (at' ts a).text, .int .i64 (at' ts a).n, .bool (at' ts a).whole, .int .i64 (at' ts a).c] 58)) := by
      obtain ⟨r0, h0⟩ := hK.lp
      exact hK.kept (keep := fun _ => True) (.of_below bt) hlo hR (fun _ _ _ => trivial) (fun _ _ _ => trivial) ⟨r0, (bt.block _ (Array.getElem?_eq_some_iff.1 h0).1).trans h0⟩
    have hKW : CompK d n₀ R w C (w6.heap.size + 1) c W := hKa.kept hk1 hlo hR (fun b hb _ => by omega) (fun b _ hb e => by obtain ⟨r0, h0⟩ := hKa.lp; obtain ⟨cs, t, f, hc, _⟩ := hb; rw [e, h0] at hc; cases hc) ⟨r', hlp⟩
    have kFW := hk1.blk kF (by omega)
    have hPW := (hPa.below bt).kept hk1 (by omega) (fun b hb => by omega)
    have hTok : Kept (fun b => IsTok W0 b ∧ w6.heap.size + 2 ≤ b) W0 W := (Kept.of_below bt).trans (hk1.mono (fun b _ hb => by have := hb.2; omega))
    have hTk : ∀ b, IsTok W0 b ∧ w6.heap.size + 2 ≤ b → IsTok W b := fun b hb => ⟨_, hTok.blk hb.1.choose_spec hb⟩
    have hszW : W0.heap.size < W.heap.size := kFW.lt
    clear hW hk1 hKa kF bt hK hPa
    obtain ⟨i, k, a', p, hc⟩ := hKW.cu
    have hu := unit_any n₀ R v ts (a + 1) d W hPW hKW.ops hG hd hL C C c i k a' p hc (by omega) (at' ts a) (hG.at a).1 ⟨Nat.le_trans hsm.1 (by omega), Nat.le_trans hsm.2.1 (by omega), Nat.le_trans hsm.2.2.1 (by omega), Nat.le_trans hsm.2.2.2 (by omega)⟩
    have pl : ∀ b, PlainB C W b → b ≠ R → b ≠ C → OffU R C i k a' p b := fun b hb h1 h2 => ⟨h1, h2, hc.plain hb⟩
    have hCn := hc.nC
    obtain ⟨r0, hl0⟩ := hKW.lp
    have hne3 : w.heap.size + 1 ≠ C ∧ w.heap.size + 1 + 1 ≠ C ∧ w.heap.size ≠ C := by
      refine ⟨fun e => ?_, fun e => ?_, fun e => ?_⟩ <;> omega
    have oB := pl _ (plain_blk hKW.box (by decide) (by decide) (by decide)) (by omega) hne3.2.2
    have o1 := pl _ (plain_blk hKW.r1 (by decide) (by decide) (by decide)) (by omega) hne3.1
    have o2 := pl _ (plain_blk hKW.r2 (by decide) (by decide) (by decide)) (by omega) hne3.2.1
    have oX := pl _ (plain_blk hKW.box2 (by decide) (by decide) (by decide)) (by omega) (by omega)
    have ol := pl _ (plain_obj hl0 (fun _ _ _ e => by cases e)) (by omega) (by omega)
    have od := pl _ (plain_obj hdf (fun _ _ _ e => by cases e)) (by omega) (by omega)
    have oold : ∀ b, b < w.heap.size → b ≠ R → OffU R C i k a' p b := fun b hb h1 => pl b (.inl (by omega)) h1 (by omega)
    have otok : ∀ b, IsTok W0 b ∧ w6.heap.size + 2 ≤ b → OffU R C i k a' p b := fun b hb => pl b (plain_blk (hTk b hb).choose_spec (by decide) (by decide) (by decide)) (by have := hb.2; omega) (by have := hb.2; omega)
    have cBx := (blk1 hKW.box).1
    obtain ⟨⟨t0, t1, t2, t3, t4⟩, _⟩ := blk5 kFW
    have HPL : Hid (∀ b, b < w.heap.size → b ≠ R → OffU R C i k a' p b) := oold
    have HTO : Hid (∀ b, IsTok W0 b ∧ w6.heap.size + 2 ≤ b → OffU R C i k a' p b) := otok
    clear pl oold otok hTk
    clear hL hG hS hP hP6 hbw6 hO6 kB k1 k2 kX hCU6 hfu hQ hCw hsm htd htg1 hab0
    generalize hU : unitV (innerV d) c (at' ts a) (ts.drop (a + 1)) = U at *
    unfold tkV at hu ⊢
    have HKW : Hid (CompK d n₀ R w C (w6.heap.size + 1) c W) := hKW
    have HOS : Hid ((OffU R C i k a' p w.heap.size ∧ OffU R C i k a' p (w.heap.size + 1) ∧ OffU R C i k a' p (w.heap.size + 1 + 1) ∧ OffU R C i k a' p (C + 1) ∧ OffU R C i k a' p (w6.heap.size + 1) ∧ OffU R C i k a' p w6.heap.size)) := ⟨oB, o1, o2, oX, ol, od⟩
    have HTK : Hid (Kept (fun b => IsTok W0 b ∧ w6.heap.size + 2 ≤ b) W0 W) := hTok
    clear hKW oB o1 o2 oX ol od hTok hc
    gi_wp2_with fail
    refine ⟨trivial, by first | rfl | exact fun h => (by cases h), ?_⟩
    have hKW := (show CompK d n₀ R w C (w6.heap.size + 1) c W from HKW)
    obtain ⟨oB, o1, o2, oX, ol, od⟩ := (show _ ∧ _ from HOS)
    have hTok := (show Kept (fun b => IsTok W0 b ∧ w6.heap.size + 2 ≤ b) W0 W from HTK)
    clear HKW HOS HTK
    refine (CallsIn.inRound l' (callsIn_wide.2 hu)).mono ?_
    clear hu
    rintro e w' ⟨hcs, hko⟩
    have hfr : W.heap.size ≤ w'.heap.size ∧ w'.heap[w6.heap.size]? = W.heap[w6.heap.size]? ∧ w'.heap[w6.heap.size + 1]? = W.heap[w6.heap.size + 1]? := ⟨hko.size, hko.block _ (by omega) od, hko.block _ (by omega) ol⟩
    have hTw : Kept (fun b => IsTok W0 b ∧ w6.heap.size + 2 ≤ b) W0 w' := hTok.trans (hko.mono (fun b _ hb => (show ∀ b, _ → _ from HTO) b hb))
    have hold := old_kept hKW.old hko (show ∀ b, _ → _ → _ from HPL)
    have hB1 := hko.blk hKW.r1 o1
    have hB2 := hko.blk hKW.r2 o2
    rcases hcs with ⟨c', b, hv, rfl, hcu, hPb⟩ | ⟨hv, rfl, b, hPb⟩
    · have hKf : CompK d n₀ R w C (w6.heap.size + 1) c' w' := ⟨hcu, hs4, hko.blk hKW.box oB, hB1, hB2, hko.blk hKW.box2 oX, hKW.ops.below (hko.below (by omega) (fun b hb => (show ∀ b, _ → _ → _ from HPL) b (by omega) (by omega))), hold, ⟨r0, hfr.2.2.trans hl0⟩⟩
      clear HPL HTO oB o1 o2 oX ol od hko hKW hTok t0 t1 t2 t3 t4 cBx
      have HV : Hid (U = some (c', ts.drop b)) := hv
      clear hv hU
      gi_wp2
      exact ⟨hfr, ⟨c', b, HV, hKf, hPb⟩, hTw⟩
    · clear HPL HTO oB o1 o2 oX ol od hko hKW hTok t0 t1 t2 t3 t4 cBx
      obtain ⟨⟨z0, z1, z2, z3, z4⟩, f0, f1, f2, f3, f4⟩ := blk5 hB1
      obtain ⟨y0, g0⟩ := blk1 hB2
      have hB1' := (blk_set5 hB1 (.string ⟨#[]⟩) nilS nilS nilS nilS).kept (grown_set (set5 w' (w.heap.size + 1) (.string ⟨#[]⟩) nilS nilS nilS nilS) (w.heap.size + 1 + 1) 0 (.bool false)) (by simp)
      have hB2' := blk_set1 (hB2.kept (grown_set5 w' (w.heap.size + 1) (.string ⟨#[]⟩) nilS nilS nilS nilS) (by simp)) (.bool false)
      have hkz : Kept (fun b => b ≠ w.heap.size + 1 ∧ b ≠ w.heap.size + 1 + 1) w' ((set5 w' (w.heap.size + 1) (.string ⟨#[]⟩) nilS nilS nilS nilS).setCell ⟨w.heap.size + 1 + 1, 0, none⟩ (.bool false)) := (Kept.of_grown (grown_set5 w' (w.heap.size + 1) (.string ⟨#[]⟩) nilS nilS nilS nilS) (fun k e h => by cases e; exact h.1 rfl)).trans (Kept.setCell _ _ _ (fun h => h.2 rfl))
      have hPz := hPb.kept hkz ⟨by omega, by omega⟩ (fun b hb => ⟨by omega, by omega⟩)
      have hoz := old_kept hold hkz (fun b hb _ => ⟨by omega, by omega⟩)
      have hsz' : w6.heap.size + 2 ≤ w'.heap.size := by have := hfr.1; omega
      have hfz : W.heap.size ≤ ((set5 w' (w.heap.size + 1) (.string ⟨#[]⟩) nilS nilS nilS nilS).setCell ⟨w.heap.size + 1 + 1, 0, none⟩ (.bool false)).heap.size ∧ ((set5 w' (w.heap.size + 1) (.string ⟨#[]⟩) nilS nilS nilS nilS).setCell ⟨w.heap.size + 1 + 1, 0, none⟩ (.bool false)).heap[w6.heap.size]? = W.heap[w6.heap.size]? ∧ ((set5 w' (w.heap.size + 1) (.string ⟨#[]⟩) nilS nilS nilS nilS).setCell ⟨w.heap.size + 1 + 1, 0, none⟩ (.bool false)).heap[w6.heap.size + 1]? = W.heap[w6.heap.size + 1]? := ⟨Nat.le_trans hfr.1 hkz.size, (hkz.block _ (by omega) ⟨by omega, by omega⟩).trans hfr.2.1, (hkz.block _ (by omega) ⟨by omega, by omega⟩).trans hfr.2.2⟩
      have HV : Hid (U = none) := hv
      clear hv hU hkz hsz' hfr hTw hold hPb hB1 hB2
      unfold set5 at hB1' hB2' hPz hoz hfz
      gi_wp2
      exact ⟨hfz, HV, hB1', hB2', hoz, b, hPz⟩
  case call =>
    rintro Lp Lx W1 hLp hLx hb1 hsz1 hr1 hlp1 hY
    have hk1 : Kept (fun _ => True) w6 W1 := .of_below hb1
    have hfl : w.heap.size + 3 ≤ w6.heap.size := by omega
    refine (units1_in 1 (w6.heap.size + 1) R (C + 1) n₀ v ts d (fun c X => CompK d n₀ R w C (w6.heap.size + 1) c X ∧ Lp X) (fun X => Lx X ∧ CompX n₀ R v ts d w X) W1 b0 ((ts.drop a0).length + 1) (.mk tg [] [] [] []) hfu (hP6.below hb1) ⟨⟨⟨_, _, _, _, hCU6.below hb1⟩, hs4, kB.below hb1 kB.lt, k1.below hb1 k1.lt, k2.below hb1 k2.lt, kX.below hb1 kX.lt, hO6.below (hb1.mono (by omega)), ((hbw6.mono (fun b _ hb => hb.1)).trans (hk1.mono (fun _ _ _ => trivial))), hr1⟩, hlp1⟩ ⟨Nat.zero_le _, Nat.zero_le _, Nat.zero_le _, Nat.zero_le _⟩ (by omega) ?_ ?_ ?_).mono ?_
    · exact fun c X h => (blk1 h.1.box2).1
    · rintro c X Y ⟨h, hx⟩ hk
      have hlk : ∀ b, w6.heap.size ≤ b → b < w6.heap.size + 2 → Y.heap[b]? = X.heap[b]? := fun b h1 h2 => by
        have := h.old.size
        obtain ⟨r0, h0⟩ := h.lp
        have := (Array.getElem?_eq_some_iff.1 h0).1
        exact hk.block b (by omega) ⟨by omega, fun hh => by omega⟩
      refine ⟨h.kept hk hlo hR (fun b hb hne => ⟨hne, fun hh => by omega⟩) (fun b hb hcl => ⟨by omega, fun hh => ?_⟩) ?_, hLp X Y hx (hlk _ (by omega) (by omega)) (hlk _ (by omega) (by omega))⟩
      · obtain ⟨cs, t, f, hc, ht⟩ := hcl
        obtain ⟨⟨cs', hc'⟩, _⟩ := hh
        rw [show X.heap[b]? = _ from hc'] at hc
        injection hc with hc
        injection hc with _ h2
        exact ht h2.symm
      · obtain ⟨r0, h0⟩ := h.lp
        exact ⟨r0, (hlk _ (by omega) (by omega)).trans h0⟩
    · rintro c a X ⟨h, hx⟩ hPa hbu hsm hszX
      refine (hY (c, a, X) (at' ts a) X hx ⟨rfl, rfl, hsm, h, hPa⟩ (by omega)).mono ?_
      rintro e W' (⟨rfl, hl', ⟨c', b, h1, h2, h3⟩, h4⟩ | ⟨rfl, hl', h6, h5⟩)
      · exact .inl ⟨rfl, ⟨c', b, h1, ⟨h2, hl'⟩, h3⟩, h4.mono (fun b _ hb => ⟨hb.1, by have := hb.2; omega⟩)⟩
      · exact .inr ⟨rfl, h6, hl', h5⟩
    · rintro e W' ⟨⟨v0, rfl⟩, ⟨c', b, h1, ⟨h2, h3⟩, h4⟩ | ⟨h1, h2, h3⟩⟩
      · exact ⟨⟨_, rfl⟩, .inl ⟨h3, c', b, h1, h2, h4⟩⟩
      · exact ⟨⟨_, rfl⟩, .inr ⟨h2, h1, h3⟩⟩
  case done =>
    rintro W ⟨c, b, hu, hK, hPb⟩ hdf
    have hlb := hPb.least
    have hyes := fun h => comp_yes htg1 htd hu hlb h
    have hno := fun h => comp_no htg1 htd hu h
    obtain ⟨V, hV⟩ : ∃ V, compV (innerV d) (ts.drop a0) = V := ⟨_, rfl⟩
    rw [hV] at hyes hno hQ
    have HQ : Hid (CompOut n₀ R v ts d w V = Q) := hQ
    obtain ⟨i, k, a', p, hc⟩ := hK.cu
    obtain ⟨qi, ci, rfl⟩ := hc.ri.form
    obtain ⟨qk, ck, rfl⟩ := hc.rk.form
    obtain ⟨qa, ca, rfl⟩ := hc.ra.form
    obtain ⟨qp, cp, rfl⟩ := hc.rp.form
    clear hQ hV hu hL hG hS hP hP6 hbw6 hO6 kB k1 k2 kX hCU6 hfu htd htg1 hab0
    have cBx := (blk1 hK.box).1
    obtain ⟨⟨z0, z1, z2, z3, z4⟩, f0, f1, f2, f3, f4⟩ := blk5 hK.r1
    obtain ⟨y0, g0⟩ := blk1 hK.r2
    obtain ⟨⟨x0, x1, x2, x3, x4⟩, _⟩ := blk5 hc.blk
    obtain ⟨⟨p0, p1, p2⟩, _⟩ := blk3 hPb.blk
    have HK : Hid (CompK d n₀ R w C (w6.heap.size + 1) c W) := hK
    have HC : Hid (CUx d C W C c (.slice qi c.ids.length ci) (.slice qk c.classes.length ck) (.slice qa c.attrs.length ca) (.slice qp c.pss.length cp)) := hc
    have HPb : Hid (Rd n₀ W R v ts b (8 - (d : Int))) := hPb
    clear hK hc hPb
    have n1 : R ≠ w.heap.size + 1 := by omega
    have n2 : w.heap.size + 1 ≠ R := by omega
    have n3 : C ≠ w.heap.size + 1 := by omega
    have n4 : w.heap.size + 1 ≠ C := by omega
    have n5 : R ≠ w.heap.size + 1 + 1 := by omega
    have n6 : w.heap.size + 1 + 1 ≠ R := by omega
    have n7 : C ≠ w.heap.size + 1 + 1 := by omega
    have n8 : w.heap.size + 1 + 1 ≠ C := by omega
    have n9 : w.heap.size ≠ w.heap.size + 1 := by omega
    have n10 : w.heap.size ≠ w.heap.size + 1 + 1 := by omega
    obtain ⟨B, hB⟩ : ∃ B, decide (a0 < b) = B := ⟨_, rfl⟩
    have hBi : decide ((a0 : Int) < (b : Int)) = B := by rw [← hB]; simp
    have hres : Hid ((B = true ∧ V = some (c, ts.drop b)) ∨ (B = false ∧ V = none)) := by
      by_cases hgt : a0 < b
      · exact .inl ⟨by rw [← hB, decide_eq_true hgt], hyes hgt⟩
      · exact .inr ⟨by rw [← hB, decide_eq_false hgt], hno hgt⟩
    clear hyes hno
    gi_wp2_with fail
    refine wpIn_wide.2 ?_
    first | go_region_law (fail) | fail
    all_goals
      gi_wp2
      obtain ⟨hdfW, hB1, hB2, hoz, hcz, hPz, _⟩ := comp_end w6.heap.size (show CompK d n₀ R w C (w6.heap.size + 1) c W from HK) (show CUx d C W C c _ _ _ _ from HC) (show Rd n₀ W R v ts b (8 - (d : Int)) from HPb) hdf hR (by omega) hs4 B
      unfold set5 at hdfW hB1 hB2 hoz hcz hPz
      refine ⟨by simp, .inl ⟨_, _, rfl, run_takeDeferred hdfW, ?_⟩⟩
      refine ⟨_, results_cells rfl _ _ (w.heap.size + 1) (w.heap.size + 1 + 1) _ _ rfl rfl (load_cp hB1) (load_bool hB2), ?_⟩
      rw [← (show _ = _ from HQ)]
      rcases (show _ ∨ _ from hres) with ⟨rfl, hv⟩ | ⟨rfl, hv⟩
      · exact ⟨.inl ⟨c, b, _, _, _, _, hv, rfl, hcz, hPz⟩, hoz⟩
      · exact ⟨.inr ⟨hv, ⟨c.tag, _, _, _, _, _, _, _, _, _, _, _, _, rfl⟩, b, hPz⟩, hoz⟩
  case stop =>
    rintro W ⟨hu, hX⟩ hdf
    have HV := comp_none htg1 htd hu
    rw [HV] at hQ
    have hP3 : ∃ b, Rd n₀ (W.putObj w6.heap.size (.deferred none)) R v ts b (8 - (d : Int)) := hX.rd.elim fun b hb => ⟨b, hb.kept (kept_putObj W w6.heap.size (.deferred none)) (by omega) (fun c hc => by omega)⟩
    have hB1 := (kept_putObj W w6.heap.size (.deferred none)).blk hX.r1 (by omega)
    have hB2 := (kept_putObj W w6.heap.size (.deferred none)).blk hX.r2 (by omega)
    have hoz : But R w (W.putObj w6.heap.size (.deferred none)) := (old_kept hX.old (kept_putObj W w6.heap.size (.deferred none)) (fun b hb _ => by omega)).mono (fun b hb h => ⟨h, hb⟩)
    clear hu hL hG hS hP hP6 hbw6 hO6 kB k1 k2 kX hCU6 hfu htd htg1 hab0 hX HV
    gi_wp2
    refine ⟨by simp, .inl ⟨_, _, rfl, run_takeDeferred hdf, ?_⟩⟩
    refine ⟨_, results_cells rfl _ _ (w.heap.size + 1) (w.heap.size + 1 + 1) _ _ rfl rfl (load_cp hB1) (load_bool hB2), ?_⟩
    rw [← hQ]
    exact ⟨.inr ⟨rfl, ⟨⟨#[]⟩, none, 0, 0, none, 0, 0, none, 0, 0, none, 0, 0, rfl⟩, hP3⟩, hoz⟩

end Go.Proofs.YtkhgmobependiaaDoor.Sl

/- The reader of selectors: the iterator over what stands between compounds. -/
namespace Go.Proofs.YtkhgmobependiaaDoor.Sl
open Go.Proofs.YtkhgmobependiaaDoor.Tre
open Go Go.RowKit Go.Shelf
attribute [local go_sem] Oper.semAt_some

theorem parts_none {L : Inner} {f : Nat} {cb : Int} {pre : List Pt} {r : List Bt} (h : compV L r = none) : partsV L f cb pre r = none := by
  cases f with
  | zero => rfl
  | succ f => simp only [partsV, h, Option.bind_none]
theorem parts_more {L : Inner} {f : Nat} {cb cb' : Int} {pre : List Pt} {ts : List Bt} {a b b' : Nat} {c : Cp} (hf : (ts.drop a).length < f) (h : compV L (ts.drop a) = some (c, ts.drop b)) (h2 : betwV (ts.drop b) = some (cb', ts.drop b')) : ∃ g, (ts.drop b').length < g ∧ partsV L f cb pre (ts.drop a) = partsV L g cb' (pre ++ [(cb, c)]) (ts.drop b') := by
  obtain ⟨f, rfl⟩ : ∃ g, f = g + 1 := ⟨f - 1, by omega⟩
  have h3 := compV_lt h
  have h4 := betwV_le h2
  refine ⟨f, ?_, ?_⟩
  · simp only at h3 h4
    omega
  · simp only [partsV, h, Option.bind_some, h2]
theorem parts_end {L : Inner} {f : Nat} {cb : Int} {pre : List Pt} {ts : List Bt} {a b b' : Nat} {c : Cp} (hf : (ts.drop a).length < f) (h : compV L (ts.drop a) = some (c, ts.drop b)) (h2 : betwV (ts.drop b) = none) (h3 : ts.drop b' = dropW (ts.drop b)) : partsV L f cb pre (ts.drop a) = some (pre ++ [(cb, c)], ts.drop b') := by
  obtain ⟨f, rfl⟩ : ∃ g, f = g + 1 := ⟨f - 1, by omega⟩
  simp only [partsV, h, Option.bind_some, h2, h3]

set_option maxRecDepth 100000 in
set_option maxHeartbeats 4000000 in
theorem combs1_in (N l R B n₀ : Nat) (v : Value) (ts : List Bt) (d : Nat) (K : List Pt → World → Prop) (Kx : World → Prop) (W : World) (a0 : Nat)
    (hP : Rd n₀ W R v ts a0 (8 - (d : Int))) (h0 : K [] W)
    (hbox : ∀ c X, K c X → X.cell? ⟨B, 0, none⟩ = some (.pointer (some ⟨R, 0, none⟩)))
    (hK : ∀ c X Y, K c X → But R X Y → K c Y)
    (hY : ∀ pre cb a W1, K pre W1 → Rd n₀ W1 R v ts a (8 - (d : Int)) → pre.length ≤ a → W.heap.size ≤ W1.heap.size → YieldAt Fence.wide (N - 1) Tryd.prog l #[.int .i64 cb] W1 fun e W' =>
      (e = .returned (.bool true) ∧ (∃ c b, compV (innerV d) (ts.drop a) = some (c, ts.drop b) ∧ K (pre ++ [(cb, c)]) W' ∧ Rd n₀ W' R v ts b (8 - (d : Int))) ∧ W.heap.size ≤ W'.heap.size) ∨ (e = .returned (.bool false) ∧ compV (innerV d) (ts.drop a) = none ∧ Kx W')) :
    CallsIn Fence.wide N Tryd.prog 37 #[.func (.yield l) #[] #[], .pointer (some ⟨B, 0, none⟩)] W fun e W' => (∃ v, e = .returned v) ∧ ((∃ ps b, selV (innerV d) (ts.drop a0) = some (ps, ts.drop b) ∧ K ps W' ∧ Rd n₀ W' R v ts b (8 - (d : Int))) ∨ (selV (innerV d) (ts.drop a0) = none ∧ Kx W')) := by
  have hlm := hP.most
  obtain ⟨V, hV⟩ : ∃ V, selV (innerV d) (ts.drop a0) = V := ⟨_, rfl⟩
  rw [hV]
  have hb0 := hbox [] W h0
  have h1 := passWhite_any n₀ R v ts a0 (8 - (d : Int)) W hP
  have HB : Hid (∀ c X, K c X → X.cell? ⟨B, 0, none⟩ = some (.pointer (some ⟨R, 0, none⟩))) := hbox
  have HK : Hid (∀ c X Y, K c X → But R X Y → K c Y) := hK
  have HY : Hid (∀ pre cb a W1, K pre W1 → Rd n₀ W1 R v ts a (8 - (d : Int)) → pre.length ≤ a → W.heap.size ≤ W1.heap.size → YieldAt Fence.wide (N - 1) Tryd.prog l #[.int .i64 cb] W1 fun e W' =>
      (e = .returned (.bool true) ∧ (∃ c b, compV (innerV d) (ts.drop a) = some (c, ts.drop b) ∧ K (pre ++ [(cb, c)]) W' ∧ Rd n₀ W' R v ts b (8 - (d : Int))) ∧ W.heap.size ≤ W'.heap.size) ∨ (e = .returned (.bool false) ∧ compV (innerV d) (ts.drop a) = none ∧ Kx W')) := hY
  clear hbox hK hY
  refine callsIn_of_wp Tryd.func37 rfl trivial ?_ rfl
  simp only [Tryd.ntmps37, List.size_toArray, List.length_cons, List.length_nil, Nat.reduceAdd, Nat.reduceSub, Array.replicate_succ, Array.replicate_zero, List.push_toArray, List.append_toArray, List.nil_append, List.cons_append]
  gi_wp2_with fail
  refine ⟨trivial, fun h => (by cases h), ?_⟩
  refine (callsIn_wide.2 h1).mono ?_
  clear h1
  rintro e w1 ⟨b1, rfl, hab, hbl, hd1, hP1, hb1⟩
  have hK1 := (show ∀ c X Y, _ → _ → _ from HK) [] W w1 h0 hb1
  have hs1 := hb1.size
  have hfu : (ts.drop b1).length < (ts.drop a0).length + 1 := by rw [List.length_drop, List.length_drop]; omega
  have HV1 : Hid (partsV (innerV d) ((ts.drop a0).length + 1) 0 [] (ts.drop b1) = V) := by
    unfold Hid
    rw [hd1, ← hV]
    rfl
  clear hV hd1
  gi_wp2
  gi_loopw [3, 4] (fun x y wr => (∃ (cb : Int) (a f : Nat) (pre : List Pt), x = .int .i64 cb ∧ y = .bool true ∧ (ts.drop a).length < f ∧ Hid (partsV (innerV d) f cb pre (ts.drop a) = V) ∧ K pre wr ∧ pre.length ≤ a ∧ Rd n₀ wr R v ts a (8 - (d : Int)) ∧ W.heap.size ≤ wr.heap.size) ∨ (∃ (ps : List Pt) (b : Nat), x = .int .i64 0 ∧ y = .bool false ∧ Hid (V = some (ps, ts.drop b)) ∧ K ps wr ∧ Rd n₀ wr R v ts b (8 - (d : Int)))) (fun _ y wr => match y with | .bool true => ts.length + 1 - placeOf wr R | _ => 0)
  case atStart => exact .inl ⟨0, b1, _, [], rfl, rfl, hfu, HV1, hK1, Nat.zero_le _, hP1, hs1⟩
  case round =>
    clear hK1 hP1 HV1 hP h0 hb0 hb1
    rcases hrel with ⟨cb, a, f, pre, rfl, rfl, hf, HV, hKc, hpl, hPa, hsz⟩ | ⟨ps, b, rfl, rfl, HV, hKc, hPb⟩
    · have hal := hPa.least
      obtain ⟨fn, tmps, assign, body, hyi, hR3⟩ := (show ∀ pre cb a W1, _ → _ → _ → _ → _ from HY) pre cb a _ hKc hPa hpl hsz
      gi_wp2_with fail
      refine ⟨fun h => (by cases h), hR3.mono ?_⟩
      clear hR3 hyi
      rintro e w4 (⟨rfl, ⟨c, b, hcv, hK4, hP4⟩, hs4⟩ | ⟨rfl, hcv, hKx⟩)
      · have hc4 := (show ∀ c X, _ → _ from HB) _ w4 hK4
        have h5 := combinator_any n₀ R v ts b (8 - (d : Int)) w4 hP4
        have hlb := hP4.least
        have hlt := compV_lt hcv
        simp only [List.length_drop] at hlt
        gi_wp2_with fail
        refine ⟨trivial, fun h => (by cases h), ?_⟩
        refine (callsIn_wide.2 h5).mono ?_
        clear h5
        rintro e w5 ⟨hcs, hb5⟩
        have hK5 := (show ∀ c X Y, _ → _ → _ from HK) _ w4 w5 hK4 hb5
        have hs5 := hb5.size
        rcases hcs with ⟨cb', b', hbw, rfl, hP5⟩ | ⟨hbw, rfl, b', hdd, hP5⟩
        · obtain ⟨g, hg, hv⟩ := parts_more (cb := cb) (pre := pre) hf hcv hbw
          have hle := betwV_le hbw
          have hlb' := hP5.least
          simp only [List.length_drop] at hle
          rw [show _ = V from HV] at hv
          have HV' : Hid (partsV (innerV d) g cb' (pre ++ [(cb, c)]) (ts.drop b') = V) := hv.symm
          have hpl' : (pre ++ [(cb, c)]).length ≤ b' := by rw [List.length_append]; simp; omega
          clear HV hv hcv hbw
          gi_wp2
          go_roundw
          case rel => exact .inl ⟨cb', b', g, pre ++ [(cb, c)], rfl, rfl, hg, HV', hK5, hpl', hP5, by omega⟩
          case measure =>
            show ts.length + 1 - placeOf _ R < ts.length + 1 - placeOf _ R
            rw [hP5.place, hPa.place]
            omega
        · have hv := parts_end (cb := cb) (pre := pre) hf hcv hbw hdd
          rw [show _ = V from HV] at hv
          have HV' : Hid (V = some (pre ++ [(cb, c)], ts.drop b')) := hv
          clear HV hv hcv hbw
          gi_wp2
          go_roundw
          case rel => exact .inr ⟨_, b', rfl, rfl, HV', hK5, hP5⟩
          case measure =>
            show 0 < ts.length + 1 - placeOf _ R
            rw [hPa.place]
            omega
      · have hv := parts_none (f := f) (cb := cb) (pre := pre) hcv
        rw [show _ = V from HV] at hv
        have HV' : Hid (V = none) := hv
        clear HV hv hcv
        gi_wp2
        refine bodyPost_ret (results_none rfl _ _ _) rfl ?_
        exact ⟨⟨_, rfl⟩, .inr ⟨HV', hKx⟩⟩
    · gi_wp2
      go_end0
      exact ⟨⟨_, rfl⟩, .inl ⟨ps, b, HV, hKc, hPb⟩⟩

end Go.Proofs.YtkhgmobependiaaDoor.Sl
