/- package match: isPseudo, isCompound. -/
import Derived.Test.YtchfnnoabejlpaaMtGd
import Derived.Test.YtchfnnoabejlpaaMtPlace
import Derived.Test.YtchfnnoabejlpaaMtGg
namespace Go.Proofs.Ytchfnnoabejlpaa.Mt
open Go.Proofs.Ytchfnnoabejlpaa.Tre
open Go Go.RowKit Dm

/-- 'is' is known of whatever stands one list deeper. -/
def Deeper (E : Env) (f : Nat) : Prop := ∀ f', f = f' + 1 → IsK E f'

set_option maxRecDepth 100000 in
set_option maxHeartbeats 4000000 in
theorem isPseudo_any (E : Env) (hE : EnvOk E) (f : Nat) (HI : Deeper E f) (γ : Ghost) (W : World) (hI : Inv E γ W) (A k j : Nat) (s : Sel) (pv : Value) (p : Pt) (q : Ps) (hA : γ A = some (.asked s pv f)) (hp : s[k]? = some p) (hq : p.2.pss[j]? = some q) (hj : j < 1099511627776) (hql : q.list.length ≤ 8796093022208) (hqa : i64 q.a ∧ i64 q.b)
    (d : Nat) (pl : Option Addr) (cl : Nat) (hS : SelsAt d E.n₀ E.w₀ (.slice pl q.list.length cl) q.list) (e : Nat) (he : e < E.qs.length) :
    Calls Try.prog 59 #[.pointer (some ⟨A, 0, none⟩), .agg #[.int .i64 k, .int .i64 j], .agg #[.int .i64 q.kind, .int .i64 q.a, .int .i64 q.b, .slice pl q.list.length cl], .int .i64 e] W fun r W' => r = .returned (.bool (pseudoV (anyV E.es f) E.es q e)) ∧ ∃ γ', Step E γ W γ' W' := by
  obtain ⟨w2, hw2⟩ : ∃ w2, (W.alloc (.cells #[.int .i64 k, .int .i64 j] 108)).alloc (.cells #[.int .i64 q.kind, .int .i64 q.a, .int .i64 q.b, .slice pl q.list.length cl] 56) = w2 := ⟨_, rfl⟩
  have b2 : Below W.heap.size W w2 := by rw [← hw2]; exact ((Below.refl _ W).alloc (Nat.le_refl _) _).alloc (by simp) _
  have st2 := hI.step b2
  have sp2 : Blk w2 W.heap.size 108 [.int .i64 k, .int .i64 j] := by rw [← hw2]; exact blk_alloc (Blk.new W 108 _) _
  have kp2 : Blk w2 (W.heap.size + 1) 56 [.int .i64 q.kind, .int .i64 q.a, .int .i64 q.b, .slice pl q.list.length cl] := by
    rw [← hw2]
    have := Blk.new (W.alloc (.cells #[.int .i64 k, .int .i64 j] 108)) 56 [.int .i64 q.kind, .int .i64 q.a, .int .i64 q.b, .slice pl q.list.length cl]
    rwa [World.size_alloc] at this
  obtain ⟨⟨d0, d1⟩, _⟩ := blk2 sp2
  obtain ⟨⟨x0, x1, x2, x3⟩, _⟩ := blk4 kp2
  obtain ⟨_, hfit, fv, lv, kA, _, _⟩ := st2.inv.asked hA
  have ST2 : Hid (Step E γ W γ w2) := st2
  obtain ⟨R, hR⟩ : ∃ R, R = pseudoV (anyV E.es f) E.es q e := ⟨_, rfl⟩
  rw [← hR]
  unfold pseudoV at hR
  by_cases h7 : q.kind = 7
  · rw [if_pos h7] at hR
    have hls : listed q = true := by unfold listed; rw [decide_eq_true h7]; rfl
    obtain ⟨f', rfl, _⟩ := fits_list hfit hp hq hls
    have hi := isAny_any E hE f' (HI f' rfl) γ w2 st2.inv A k j s pv p q hA hp hq hls hj hql d pl cl hS e he
    rw [h7] at x0 hw2
    have HR : Hid (_ = _) := hR
    clear hR hI hE HI hA hS st2 sp2 kp2 kA hls hfit
    rw [h7]
    clear h7
    go_enter Try.func59, Try.ntmps59
    go_wp2_with fail
    refine hi.mono ?_
    clear hi
    rintro r W' ⟨rfl, γ', st⟩
    have HS2 : Hid (Step E γ W γ' W') := ST2.out.trans st
    clear st
    go_wp2
    go_ret
    exact ⟨by rw [show R = _ from HR.out]; rfl, γ', HS2.out⟩
  · rw [if_neg h7] at hR
    have e7 : (q.kind == 7) = false := by simpa using h7
    by_cases h8 : q.kind = 8
    · rw [if_pos h8] at hR
      have hls : listed q = true := by unfold listed; rw [decide_eq_true h8]; simp
      obtain ⟨f', rfl, _⟩ := fits_list hfit hp hq hls
      have hi := isAny_any E hE f' (HI f' rfl) γ w2 st2.inv A k j s pv p q hA hp hq hls hj hql d pl cl hS e he
      rw [h8] at x0 hw2
      have HR : Hid (_ = _) := hR
      clear hR hI hE HI hA hS st2 sp2 kp2 kA hls hfit h7 e7
      rw [h8]
      clear h8
      go_enter Try.func59, Try.ntmps59
      go_wp2_with fail
      refine hi.mono ?_
      clear hi
      rintro r W' ⟨rfl, γ', st⟩
      have HS2 : Hid (Step E γ W γ' W') := ST2.out.trans st
      clear st
      go_wp2
      go_ret
      exact ⟨by rw [show R = _ from HR.out]; rfl, γ', HS2.out⟩
    · rw [if_neg h8] at hR
      have e8 : (q.kind == 8) = false := by simpa using h8
      have q0 : Below w2.heap.size w2 w2.drew := below_drew (Below.refl _ _)
      have st3 := st2.trans (st2.inv.step q0)
      have hi := isPlaced_any E hE w2.drew (st3.inv.tree hE) e q pl q.list.length cl hqa
      rw [← hR] at hi
      have HS : Hid (∀ X : World, Below w2.heap.size w2 X → X.cell? ⟨A, 0, none⟩ = some (.pointer (some ⟨E.tb, 0, none⟩)) ∧ X.cell? ⟨W.heap.size + 1, 0, none⟩ = some (.int .i64 q.kind) ∧ X.cell? ⟨W.heap.size + 1, 1, none⟩ = some (.int .i64 q.a) ∧ X.cell? ⟨W.heap.size + 1, 2, none⟩ = some (.int .i64 q.b) ∧ X.cell? ⟨W.heap.size + 1, 3, none⟩ = some (.slice pl q.list.length cl)) := fun X hX => by
        obtain ⟨⟨y0, y1, y2, y3⟩, _⟩ := blk4 (kp2.next hX)
        exact ⟨(blk4 (kA.next hX)).1.1, y0, y1, y2, y3⟩
      have HST : Hid (Step E γ W γ w2.drew) := st3
      clear hR hI hE HI hA hS st2 sp2 kp2 kA hfit h7 h8 st3 ST2
      go_enter Try.func59, Try.ntmps59
      go_upto_region 6 with fail
      clear x0 x1 x2 x3 d0 d1 hw2
      refine Rg.wpD_begin [0, 1, 2, 3, 4, 5] (fun X => X.cell? ⟨A, 0, none⟩ = some (.pointer (some ⟨E.tb, 0, none⟩)) ∧ X.cell? ⟨W.heap.size + 1, 0, none⟩ = some (.int .i64 q.kind) ∧ X.cell? ⟨W.heap.size + 1, 1, none⟩ = some (.int .i64 q.a) ∧ X.cell? ⟨W.heap.size + 1, 2, none⟩ = some (.int .i64 q.b) ∧ X.cell? ⟨W.heap.size + 1, 3, none⟩ = some (.slice pl q.list.length cl)) (by kernel_rfl) ?_
      have HeldS := HS.out _ q0
      refine Rg.wpD_load 0 (v := ?_) (by simp only [List.getElem?_toArray, List.getElem?_cons_zero]; rfl) (by kernel_rfl) (by kernel_rfl) (by intro _ _ _ h; exact h) HeldS (by rfl) (fun wz hz => ?_) ?_
      rotate_left
      · first | (go_simp; done) | (go_simp; with_reducible rfl)
      simp only [Act.put, List.setIfInBounds_toArray, List.set_cons_succ, List.set_cons_zero]
      refine Rg.wpD_load 1 (v := ?_) (by simp only [List.getElem?_toArray, List.getElem?_cons_succ, List.getElem?_cons_zero]; rfl) (by kernel_rfl) (by kernel_rfl) (by intro _ _ _ h; exact h) HeldS (by rfl) (fun wz hz => ?_) ?_
      rotate_left
      · first | (go_simp; done) | (go_simp; with_reducible rfl)
      simp only [Act.put, List.setIfInBounds_toArray, List.set_cons_succ, List.set_cons_zero]
      refine Rg.wpD_load 2 (v := ?_) (by simp only [List.getElem?_toArray, List.getElem?_cons_succ, List.getElem?_cons_zero]; rfl) (by kernel_rfl) (by kernel_rfl) (by intro _ _ _ h; exact h) HeldS (by rfl) (fun wz hz => ?_) ?_
      rotate_left
      · first | (go_simp; done) | (go_simp; with_reducible rfl)
      simp only [Act.put, List.setIfInBounds_toArray, List.set_cons_succ, List.set_cons_zero]
      refine Rg.wpD_load 3 (v := ?_) (by simp only [List.getElem?_toArray, List.getElem?_cons_succ, List.getElem?_cons_zero]; rfl) (by kernel_rfl) (by kernel_rfl) (by intro _ _ _ h; exact h) HeldS (by rfl) (fun wz hz => ?_) ?_
      rotate_left
      · first | (go_simp; done) | (go_simp; with_reducible rfl)
      simp only [Act.put, List.setIfInBounds_toArray, List.set_cons_succ, List.set_cons_zero]
      refine Rg.wpD_load 4 (v := ?_) (by simp only [List.getElem?_toArray, List.getElem?_cons_succ, List.getElem?_cons_zero]; rfl) (by kernel_rfl) (by kernel_rfl) (by intro _ _ _ h; exact h) HeldS (by rfl) (fun wz hz => ?_) ?_
      rotate_left
      · first | (go_simp; done) | (go_simp; with_reducible rfl)
      simp only [Act.put, List.setIfInBounds_toArray, List.set_cons_succ, List.set_cons_zero]
      refine Rg.wpD_load 5 (v := ?_) (by simp only [List.getElem?_toArray, List.getElem?_cons_succ, List.getElem?_cons_zero]; rfl) (by kernel_rfl) (by kernel_rfl) (by intro _ _ _ h; exact h) HeldS (by rfl) (fun wz hz => ?_) ?_
      rotate_left
      · first | (go_simp; done) | (go_simp; with_reducible rfl)
      simp only [Act.put, List.setIfInBounds_toArray, List.set_cons_succ, List.set_cons_zero]
      refine Rg.wpD_do 6 (by kernel_rfl) (by simp only [List.getElem?_toArray, List.getElem?_cons_succ, List.getElem?_cons_zero]; rfl) (fun K hK => ?_)
      go_simp
      go_at_call 70
      refine Calls.mono hi ?_
      clear hi
      rintro r X ⟨rfl, bX⟩
      have HSX : Hid (Step E γ W γ X) := HST.out.trans (HST.out.inv.step bX)
      refine hK _ _ (fun h => absurd h (by decide)) ?_
      clear hK K HeldS
      refine Rg.wpD_pure 7 (v := ?_) (by simp only [List.getElem?_toArray, List.getElem?_cons_succ, List.getElem?_cons_zero]; rfl) (by kernel_rfl) (by kernel_rfl) (by intro _ _ _ h; exact h) (by rfl) (fun wz => ?_) ?_
      rotate_left
      · first | (go_simp; done) | (go_simp; with_reducible rfl)
      simp only [Act.put, List.setIfInBounds_toArray, List.set_cons_succ, List.set_cons_zero]
      refine Rg.wpD_done (by kernel_rfl) ?_
      go_wp2
      go_ret
      exact ⟨rfl, γ, HSX.out⟩

end Go.Proofs.Ytchfnnoabejlpaa.Mt

/- package match: isCompound. -/
namespace Go.Proofs.Ytchfnnoabejlpaa.Mt
open Go.Proofs.Ytchfnnoabejlpaa.Tre
open Go Go.RowKit Dm

set_option maxRecDepth 100000 in
set_option maxHeartbeats 8000000 in
theorem isCompound_any (E : Env) (HAT : ∀ a, AtOk a → AttrK E.w₀ E.es a) (hE : EnvOk E) (f : Nat) (HI : Deeper E f) (γ : Ghost) (W : World) (hI : Inv E γ W) (A k : Nat) (s : Sel) (pv : Value) (hA : γ A = some (.asked s pv f)) (hk : k < s.length) (e : Nat) (he : e < E.qs.length) :
    Calls Try.prog 43 #[.pointer (some ⟨A, 0, none⟩), .int .i64 k, .int .i64 e] W fun r W' => r = .returned (.bool (compV (anyV E.es f) E.es (partAt s k).2 e)) ∧ ∃ γ', Step E γ W γ' W' := by
  obtain ⟨p, hp⟩ : ∃ p, s[k]? = some p := ⟨_, List.getElem?_eq_getElem hk⟩
  rw [partAt_eq hp]
  obtain ⟨_, o, ho, ⟨d, hP⟩, hfit, fv, lv, rfl, _, _⟩ := hI.each A _ hA
  have kA : Blk W A 73 [ptrV E.tb, pv, fv, lv] := ho
  have hs50 := fits_len hfit
  obtain ⟨pp, cp, rfl⟩ := RowT.len hP
  obtain ⟨bk, off, vi, vc, va, vp, rfl, hbk, hcap, hmx, _, ⟨x0, x1, x2, x3, x4, x5⟩, g1, g2, g3, g4, g5, g6⟩ := PartsAt.get hP hp
  unfold maxLen at hmx
  have cw : ∀ o, W.cell? ⟨bk, o, none⟩ = E.w₀.cell? ⟨bk, o, none⟩ := fun o => hI.low.cell (p := ⟨bk, o, none⟩) hbk
  rw [← cw] at x0 x1 x2 x3 x4 x5
  obtain ⟨pi, ci, rfl⟩ := g1.len
  obtain ⟨pc, cc, rfl⟩ := g2.len
  obtain ⟨pt, ct, rfl⟩ := g3.len
  obtain ⟨ps, cs, rfl⟩ := RowT.len g4
  have hki : (k : Int) < (s.length : Int) := by omega
  obtain ⟨w1, hw1⟩ : ∃ w1, W.alloc (.cells #[.string p.2.tag, .slice pi p.2.ids.length ci, .slice pc p.2.classes.length cc, .slice pt p.2.attrs.length ct, .slice ps p.2.pss.length cs] 40) = w1 := ⟨_, rfl⟩
  have b1 : Below W.heap.size W w1 := by rw [← hw1]; exact (Below.refl _ _).alloc (Nat.le_refl _) _
  have k1 : Blk w1 W.heap.size 40 [.string p.2.tag, .slice pi p.2.ids.length ci, .slice pc p.2.classes.length cc, .slice pt p.2.attrs.length ct, .slice ps p.2.pss.length cs] := by rw [← hw1]; exact Blk.new W 40 _
  have st1 := hI.step b1
  obtain ⟨⟨c0, c1, _, _⟩, _⟩ := blk4 kA
  have lowW : E.w₀.heap.size ≤ W.heap.size := hI.low.size
  have q0 : Below w1.heap.size w1 w1.drew := below_drew (Below.refl _ _)
  have st0 := st1.trans (st1.inv.step q0)
  have hnode := node_any E.b E.tb E.g E.cap E.qs e w1.drew (st0.inv.tree hE) hE.nds
  have HS : Hid (∀ X : World, Below w1.heap.size w1 X → X.cell? ⟨A, 0, none⟩ = some (.pointer (some ⟨E.tb, 0, none⟩)) ∧ X.cell? ⟨W.heap.size, 0, none⟩ = some (.string p.2.tag) ∧ X.cell? ⟨W.heap.size, 1, none⟩ = some (.slice pi p.2.ids.length ci) ∧ X.cell? ⟨W.heap.size, 2, none⟩ = some (.slice pc p.2.classes.length cc) ∧ X.cell? ⟨W.heap.size, 3, none⟩ = some (.slice pt p.2.attrs.length ct) ∧ X.cell? ⟨W.heap.size, 4, none⟩ = some (.slice ps p.2.pss.length cs)) := fun X hX => by
    obtain ⟨⟨y0, y1, y2, y3, y4⟩, _⟩ := blk5 (k1.next hX)
    exact ⟨(blk4 ((kA.next b1).next hX)).1.1, y0, y1, y2, y3, y4⟩
  obtain ⟨R, hR⟩ : ∃ R, R = compV (anyV E.es f) E.es p.2 e := ⟨_, rfl⟩
  rw [← hR]
  have HR : Hid (R = (namedV (nodeV E.es e) p.2 && p.2.pss.all (fun q => pseudoV (anyV E.es f) E.es q e))) := hR
  have hND : NdOk (nodeV E.es e) := by
    have hel : E.es.length = E.qs.length := List.length_map ..
    have hq : E.qs[e]? = some E.qs[e] := List.getElem?_eq_getElem he
    unfold nodeV
    rw [elAt_yes (map_at hq)]
    exact hE.nds _ (List.mem_of_getElem? hq)
  have ST0 : Hid (Step E γ W γ w1.drew) := st0
  have HE : Hid (EnvOk E) := hE
  have HHT : Hid (∀ a, AtOk a → AttrK E.w₀ E.es a) := HAT
  have hmq : ∃ q ∈ E.es, q.nd = nodeV E.es e := by
    have hq : E.qs[e]? = some E.qs[e] := List.getElem?_eq_getElem he
    refine ⟨E.qs[e].e, List.mem_map_of_mem (List.mem_of_getElem? hq), ?_⟩
    unfold nodeV
    rw [elAt_yes (map_at hq)]
    rfl
  have HMQ : Hid (∃ q ∈ E.es, q.nd = nodeV E.es e) := hmq
  clear hmq
  have HID : Hid (Deeper E f) := HI
  have HA : Hid (_ = _) := hA
  have HIV : Hid (Inv E γ W) := hI
  have HND : Hid (NdOk (nodeV E.es e)) := hND
  have G1 : Hid (StrsR E.n₀ E.w₀ (.slice pi p.2.ids.length ci) p.2.ids) := g1
  have G2 : Hid (StrsR E.n₀ E.w₀ (.slice pc p.2.classes.length cc) p.2.classes) := g2
  have G3 : Hid (AttrsAt E.n₀ E.w₀ (.slice pt p.2.attrs.length ct) p.2.attrs) := g3
  have G4 : Hid (RowT 4 (PsT (SelsAt d E.n₀ E.w₀)) E.n₀ E.w₀ (.slice ps p.2.pss.length cs) p.2.pss) := g4
  have G6 : Hid (∀ x ∈ p.2.attrs, AtOk x) := g6
  have hlp := RowT.short g4
  unfold maxLen at hlp
  unfold ptrV at c0
  clear hR hI hE HI hA HAT hP kA ho g1 g2 g3 g4 g6 cw hfit st1 st0 hND k1
  go_enter Try.func43, Try.ntmps43
  go_upto_region 2 with fail
  clear x0 x1 x2 x3 x4 x5 c0 c1 hw1
  refine Rg.wpD_begin [0, 1, 2, 3, 4, 5, 6] (fun X => X.cell? ⟨A, 0, none⟩ = some (.pointer (some ⟨E.tb, 0, none⟩)) ∧ X.cell? ⟨W.heap.size, 0, none⟩ = some (.string p.2.tag) ∧ X.cell? ⟨W.heap.size, 1, none⟩ = some (.slice pi p.2.ids.length ci) ∧ X.cell? ⟨W.heap.size, 2, none⟩ = some (.slice pc p.2.classes.length cc) ∧ X.cell? ⟨W.heap.size, 3, none⟩ = some (.slice pt p.2.attrs.length ct) ∧ X.cell? ⟨W.heap.size, 4, none⟩ = some (.slice ps p.2.pss.length cs)) (by kernel_rfl) ?_
  have HeldS := HS.out _ q0
  refine Rg.wpD_load 0 (v := ?_) (by simp only [List.getElem?_toArray, List.getElem?_cons_zero]; rfl) (by kernel_rfl) (by kernel_rfl) (by intro _ _ _ h; exact h) HeldS (by rfl) (fun wz hz => ?_) ?_
  rotate_left
  · first | (go_simp; done) | (go_simp; with_reducible rfl)
  simp only [Act.put, List.setIfInBounds_toArray, List.set_cons_succ, List.set_cons_zero]
  refine Rg.wpD_load 1 (v := ?_) (by simp only [List.getElem?_toArray, List.getElem?_cons_succ, List.getElem?_cons_zero]; rfl) (by kernel_rfl) (by kernel_rfl) (by intro _ _ _ h; exact h) HeldS (by rfl) (fun wz hz => ?_) ?_
  rotate_left
  · first | (go_simp; done) | (go_simp; with_reducible rfl)
  simp only [Act.put, List.setIfInBounds_toArray, List.set_cons_succ, List.set_cons_zero]
  refine Rg.wpD_load 2 (v := ?_) (by simp only [List.getElem?_toArray, List.getElem?_cons_succ, List.getElem?_cons_zero]; rfl) (by kernel_rfl) (by kernel_rfl) (by intro _ _ _ h; exact h) HeldS (by rfl) (fun wz hz => ?_) ?_
  rotate_left
  · first | (go_simp; done) | (go_simp; with_reducible rfl)
  simp only [Act.put, List.setIfInBounds_toArray, List.set_cons_succ, List.set_cons_zero]
  refine Rg.wpD_load 3 (v := ?_) (by simp only [List.getElem?_toArray, List.getElem?_cons_succ, List.getElem?_cons_zero]; rfl) (by kernel_rfl) (by kernel_rfl) (by intro _ _ _ h; exact h) HeldS (by rfl) (fun wz hz => ?_) ?_
  rotate_left
  · first | (go_simp; done) | (go_simp; with_reducible rfl)
  simp only [Act.put, List.setIfInBounds_toArray, List.set_cons_succ, List.set_cons_zero]
  refine Rg.wpD_load 4 (v := ?_) (by simp only [List.getElem?_toArray, List.getElem?_cons_succ, List.getElem?_cons_zero]; rfl) (by kernel_rfl) (by kernel_rfl) (by intro _ _ _ h; exact h) HeldS (by rfl) (fun wz hz => ?_) ?_
  rotate_left
  · first | (go_simp; done) | (go_simp; with_reducible rfl)
  simp only [Act.put, List.setIfInBounds_toArray, List.set_cons_succ, List.set_cons_zero]
  refine Rg.wpD_load 6 (v := ?_) (by simp only [List.getElem?_toArray, List.getElem?_cons_succ, List.getElem?_cons_zero]; rfl) (by kernel_rfl) (by kernel_rfl) (by intro _ _ _ h; exact h) HeldS (by rfl) (fun wz hz => ?_) ?_
  rotate_left
  · first | (go_simp; done) | (go_simp; with_reducible rfl)
  simp only [Act.put, List.setIfInBounds_toArray, List.set_cons_succ, List.set_cons_zero]
  refine Rg.wpD_do 5 (by kernel_rfl) (by simp only [List.getElem?_toArray, List.getElem?_cons_succ, List.getElem?_cons_zero]; rfl) (fun K hK => ?_)
  go_simp
  go_at_call 58
  refine Calls.mono hnode ?_
  clear hnode
  rintro r X ⟨cv, av, rfl, hcv, hav, bX⟩
  have stX := ST0.out.trans (ST0.out.inv.step bX)
  have lowX := stX.inv.low
  have hnm := isNamed_any E.w₀ E.es HHT.out (nodeV E.es e) cv av X HMQ.out lowX HND.out hcv.at hav.at p.2 (.slice pi p.2.ids.length ci) (.slice pc p.2.classes.length cc) (.slice pt p.2.attrs.length ct) (.slice ps p.2.pss.length cs) ((G1.out.below lowX).mono lowX.size) ((G2.out.below lowX).mono lowX.size) ((G3.out.below lowX).mono lowX.size) G6.out ⟨_, _, _, rfl⟩
  have STX : Hid (Step E γ W γ X) := stX
  refine hK _ _ (fun _ => HS.out _ (below_next q0 bX)) ?_
  clear hK K HeldS
  refine Rg.wpD_do 7 (by kernel_rfl) (by simp only [List.getElem?_toArray, List.getElem?_cons_succ, List.getElem?_cons_zero]; rfl) (fun K hK => ?_)
  go_simp
  go_at_call 57
  refine Calls.mono hnm ?_
  clear hnm hcv hav lowX
  rintro r Y ⟨rfl, bY⟩
  have stY := stX.trans (stX.inv.step bY)
  have STY : Hid (Step E γ W γ Y) := stY
  have hm4 := (HS.out _ (below_next (below_next q0 bX) bY)).2.2.2.2.2
  refine hK _ _ (fun h => absurd h (by decide)) ?_
  clear hK K stX stY
  refine Rg.wpD_pure 8 (v := ?_) (by simp only [List.getElem?_toArray, List.getElem?_cons_succ, List.getElem?_cons_zero]; rfl) (by kernel_rfl) (by kernel_rfl) (by intro _ _ _ h; exact h) (by rfl) (fun wz => ?_) ?_
  rotate_left
  · first | (go_simp; done) | (go_simp; with_reducible rfl)
  simp only [Act.put, List.setIfInBounds_toArray, List.set_cons_succ, List.set_cons_zero]
  refine Rg.wpD_done (by kernel_rfl) ?_
  cases hnv : namedV (nodeV E.es e) p.2 with
  | false =>
    have FIN : Hid (false = R) := by
      show _ = _
      rw [show R = _ from HR.out, hnv]
      rfl
    clear hnv
    go_wp2
    go_ret
    exact ⟨by rw [← show false = _ from FIN.out]; rfl, γ, STY.out⟩
  | true =>
    have HR2 : Hid (R = p.2.pss.all (fun q => pseudoV (anyV E.es f) E.es q e)) := by
      show _ = _
      rw [show R = _ from HR.out, hnv, Bool.true_and]
    clear hnv
    go_wp2
    go_loopw [30] (fun y wr => ∃ (i : Nat) (γi : Ghost), y = .int .i64 i ∧ i ≤ p.2.pss.length ∧ (p.2.pss.take i).all (fun q => pseudoV (anyV E.es f) E.es q e) = true ∧ Step E γ W γi wr) (fun y _ => p.2.pss.length - (intOf y).toNat)
    case atStart => exact ⟨0, γ, rfl, Nat.zero_le _, rfl, STY.out⟩
    case round =>
      clear hm4
      obtain ⟨i, γi, rfl, hi, hall, hst⟩ := hrel
      have HALL : Hid (_ = _) := hall
      have HST : Hid _ := hst
      clear hall
      by_cases hlt : i < p.2.pss.length
      · obtain ⟨q, hq⟩ : ∃ q, p.2.pss[i]? = some q := ⟨_, List.getElem?_eq_getElem hlt⟩
        obtain ⟨bk2, off2, xl, rfl, hbk2, hcap2, hmx2, ⟨_, hqa, hqb, hql⟩, hQ, y0, y1, y2, y3⟩ := pss_get G4.out hq
        unfold maxLen at hmx2
        have cw : ∀ o, wr.cell? ⟨bk2, o, none⟩ = E.w₀.cell? ⟨bk2, o, none⟩ := fun o => hst.inv.low.cell (p := ⟨bk2, o, none⟩) hbk2
        rw [← cw] at y0 y1 y2 y3
        obtain ⟨pl, cl, rfl⟩ := SelsAt.len hQ
        have hii : (i : Int) < (p.2.pss.length : Int) := by omega
        obtain ⟨X1, hX1⟩ : ∃ X1, wr.alloc (.cells #[.int .i64 q.kind, .int .i64 q.a, .int .i64 q.b, .slice pl q.list.length cl] 56) = X1 := ⟨_, rfl⟩
        have bX1 : Below wr.heap.size wr X1 := by rw [← hX1]; exact (Below.refl _ _).alloc (Nat.le_refl _) _
        have kX1 : Blk X1 wr.heap.size 56 [.int .i64 q.kind, .int .i64 q.a, .int .i64 q.b, .slice pl q.list.length cl] := by rw [← hX1]; exact Blk.new wr 56 _
        obtain ⟨⟨z0, z1, z2, z3⟩, _⟩ := blk4 kX1
        have st3 := hst.trans (hst.inv.step bX1)
        have hps := isPseudo_any E HE.out f HID.out γi X1 st3.inv A k i s _ p q (hst.mono HIV.out _ _ HA.out) hp hq (by omega) hql ⟨hqa, hqb⟩ d pl cl hQ e he
        have ST3 : Hid (Step E γ W γi X1) := st3
        have HQ : Hid (_ = _) := hq
        clear cw hQ hst st3 hq
        go_wp2_with fail
        refine hps.mono ?_
        clear hps
        rintro r Z ⟨rfl, γ', stz⟩
        have HSZ : Hid (Step E γ W γ' Z) := ST3.out.trans stz
        clear stz z0 z1 z2 z3 y0 y1 y2 y3 hX1
        cases hv : pseudoV (anyV E.es f) E.es q e with
        | true =>
          have FIN : Hid ((p.2.pss.take (i + 1)).all (fun q => pseudoV (anyV E.es f) E.es q e) = true) := all_take HALL.out HQ.out hv
          clear hv
          go_wp2
          go_roundw
          case rel => exact ⟨_, _, _, _, _, _, _, _, _, _, _, _, _, _, _, _, _, ⟨i + 1, γ', rfl, by omega, FIN.out, HSZ.out⟩, rfl⟩
          case measure => simp [intOf]; omega
        | false =>
          have FIN : Hid (false = R) := by
            show _ = _
            rw [show R = _ from HR2.out, all_not HQ.out hv]
          clear hv
          go_wp2
          go_ret
          exact ⟨by rw [← show false = _ from FIN.out]; rfl, γ', HSZ.out⟩
      · have hii : ¬ ((i : Int) < (p.2.pss.length : Int)) := by omega
        obtain rfl : i = p.2.pss.length := by omega
        have FIN : Hid (true = R) := by
          have h := HALL.out
          rw [List.take_length] at h
          show _ = _
          rw [show R = _ from HR2.out]
          exact h.symm
        clear hst
        go_wp2
        go_ret
        exact ⟨by rw [← show true = _ from FIN.out]; rfl, γi, HST.out⟩

end Go.Proofs.Ytchfnnoabejlpaa.Mt
