/- For every list of rules and every node (inputs without rings): the law tapestrierlaw12.BucketFor returns true and leaves its arguments as they were; no other condition. -/
import Derived.Test.YtmahjhcinooihaaGreatBkRef
import Derived.Test.YtmahjhcinooihaaGreatBkD
import Derived.Test.YtmahjhcinooihaaGreatRows
namespace Go.Proofs.YtmahjhcinooihaaGreat
open Go.Proofs.YtmahjhcinooihaaGreat.Tre
open Go Go.ChangeShapes Go.WideShapes Go.ChangeAt Go.RowKit Sl Wg Bk

set_option maxRecDepth 100000 in
set_option maxHeartbeats 1000000 in
theorem bucketFor_walk (w : World) (v : Value) (l : List Rl) (hv : RulesR 11 w.heap.size w v l) (hl : RlOk l) (nv : Value) (n : Nn) (hn : NodeAt n w nv) (hnk : NnOk n) :
    Calls Tryz.prog 3 #[v, nv] w fun e w' => e = .returned (.bool true) ∧ Below w.heap.size w w' := by
  obtain ⟨par, cv, av, rfl, hcv, pa, ma, ca, rfl⟩ := hn
  obtain ⟨qc, cc, rfl⟩ := RowT.len hcv
  obtain ⟨qv, cpv, rfl⟩ := RowT.len hv
  obtain ⟨w1, hw1⟩ : ∃ w1, w.alloc (.cells #[.int .i64 par, .string n.tag, .string n.id, .slice qc n.cls.length cc, .slice pa ma ca] 26) = w1 := ⟨_, rfl⟩
  have b1 : Below w.heap.size w w1 := by rw [← hw1]; exact (Below.refl _ _).alloc (Nat.le_refl _) _
  have k1 : Blk w1 w.heap.size 26 [.int .i64 par, .string n.tag, .string n.id, .slice qc n.cls.length cc, .slice pa ma ca] := by rw [← hw1]; exact Blk.new w 26 _
  have hal := Bk.alive_any w1
  have HV : Hid (RulesR 11 w.heap.size w (.slice qv l.length cpv) l) := hv
  have HCV : Hid (RowT 1 StrC w.heap.size w (.slice qc n.cls.length cc) n.cls) := hcv
  have HL : Hid (RlOk l) := hl
  have HNK : Hid (NnOk n) := hnk
  clear hv hcv hl hnk
  go_enter Tryz.func3, Tryz.ntmps3
  go_wp2_with fail
  refine hal.mono ?_
  clear hal
  rintro e w2 ⟨rfl, b2⟩
  have B2 := below_next b1 b2
  have k2 := k1.below b2 k1.lt
  have hde := dearRules_any _ l w2 (HV.out.next B2)
  clear k1
  go_wp2_with fail
  refine hde.mono ?_
  clear hde
  rintro e w3 ⟨t, rfl, ht, b3⟩
  have B3 := below_next B2 b3
  have k3 := k2.below b3 k2.lt
  clear k2 b2 b1
  have HT : Hid (t = false → l.length ≤ 30 ∧ ∀ r ∈ l, r.length ≤ 8) := ht
  obtain ⟨⟨c0, c1, c2, c3, c4⟩, _⟩ := blk5 k3
  clear ht
  cases t with
  | true =>
    go_wp2
    go_ret
    exact ⟨rfl, B3⟩
  | false =>
    by_cases h20 : (20 : Int) < (n.cls.length : Int)
    · go_wp2
      go_ret
      exact ⟨rfl, B3⟩
    · obtain ⟨h30, h8⟩ := HT.out rfl
      have hcl : n.cls.length ≤ 20 := by omega
      have hnew := new_any 10 _ l w3 (HV.out.next B3) (by omega) (fun r hr => by have := h8 r hr; omega) (fun r hr s hs => SlOk.nm (HL.out r hr s hs))
      have K3 : Hid (Blk w3 w.heap.size 26 [.int .i64 par, .string n.tag, .string n.id, .slice qc n.cls.length cc, .slice pa ma ca]) := k3
      have HCL : Hid (n.cls.length ≤ 20) := hcl
      have H30 : Hid (l.length ≤ 30 ∧ ∀ r ∈ l, r.length ≤ 8) := ⟨h30, h8⟩
      clear k3 h8 h30 HT hcl
      go_wp2_with fail
      refine hnew.mono ?_
      clear hnew c0 c1 c2 c3 c4
      rintro e w4 ⟨tb, rfl, hM, b4⟩
      have B4 := below_next B3 b4
      have HM : Hid (MapIn w3.heap.size w4 tb (newFm l) (lenV l) 10000000000) := hM
      have HNO : Hid (n.ok) := HNK.out.ok (by have := HCL.out; omega)
      have HND : Hid (∀ X, Below w4.heap.size w4 X → NodeAt n X (.agg #[.int .i64 par, .string n.tag, .string n.id, .slice qc n.cls.length cc, .slice pa ma ca])) := fun X hX => by
        have hbx := below_next B4 hX
        exact ⟨par, _, _, rfl, (HCV.out.below hbx (T' := StrC) (fun _ _ h => h)).mono hbx.size (fun _ _ h => h), pa, ma, ca, rfl⟩
      have HRL : Hid (∀ X, Below w4.heap.size w4 X → RulesR 11 X.heap.size X (.slice qv l.length cpv) l) := fun X hX => HV.out.next (below_next B4 hX)
      have HC : Hid (∀ X, Below w4.heap.size w4 X → X.cell? ⟨w.heap.size, 0, none⟩ = some (.int .i64 par) ∧ X.cell? ⟨w.heap.size, 1, none⟩ = some (.string n.tag) ∧ X.cell? ⟨w.heap.size, 2, none⟩ = some (.string n.id) ∧ X.cell? ⟨w.heap.size, 3, none⟩ = some (.slice qc n.cls.length cc) ∧ X.cell? ⟨w.heap.size, 4, none⟩ = some (.slice pa ma ca)) := fun X hX =>
        (blk5 (K3.out.below (below_next b4 hX) K3.out.lt)).1
      have q0 : Below w4.heap.size w4 w4.drew := below_drew (Below.refl _ _)
      have HeldS := HC.out _ q0
      clear hM
      go_upto_region 6 with fail
      refine Rg.wpD_begin [0, 1, 2, 3, 4, 5] (fun X => X.cell? ⟨w.heap.size, 0, none⟩ = some (.int .i64 par) ∧ X.cell? ⟨w.heap.size, 1, none⟩ = some (.string n.tag) ∧ X.cell? ⟨w.heap.size, 2, none⟩ = some (.string n.id) ∧ X.cell? ⟨w.heap.size, 3, none⟩ = some (.slice qc n.cls.length cc) ∧ X.cell? ⟨w.heap.size, 4, none⟩ = some (.slice pa ma ca)) (by kernel_rfl) ?_
      refine Rg.wpD_load 0 (v := ?_) (by simp only [List.getElem?_toArray, List.getElem?_cons_zero]; rfl) (by kernel_rfl) (by kernel_rfl) (by intro _ _ _ h; exact h) HeldS (by rfl) (fun wz hz => ?_) ?_
      rotate_left
      · first | (go_simp; done) | (go_simp; with_reducible rfl)
      simp only [Act.put, List.setIfInBounds_toArray, List.set_cons_succ, List.set_cons_zero]
      refine Rg.wpD_load 1 (v := ?_) (by simp only [List.getElem?_toArray, List.getElem?_cons_succ, List.getElem?_cons_zero]; rfl) (by kernel_rfl) (by kernel_rfl) (by intro _ _ _ h; exact h) HeldS (by rfl) (fun wz hz => ?_) ?_
      rotate_left
      · first | (go_simp; done) | (go_simp; with_reducible rfl)
      simp only [Act.put, List.setIfInBounds_toArray, List.set_cons_succ, List.set_cons_zero]
      refine Rg.wpD_load 3 (v := ?_) (by simp only [List.getElem?_toArray, List.getElem?_cons_succ, List.getElem?_cons_zero]; rfl) (by kernel_rfl) (by kernel_rfl) (by intro _ _ _ h; exact h) HeldS (by rfl) (fun wz hz => ?_) ?_
      rotate_left
      · first | (go_simp; done) | (go_simp; with_reducible rfl)
      simp only [Act.put, List.setIfInBounds_toArray, List.set_cons_succ, List.set_cons_zero]
      refine Rg.wpD_load 4 (v := ?_) (by simp only [List.getElem?_toArray, List.getElem?_cons_succ, List.getElem?_cons_zero]; rfl) (by kernel_rfl) (by kernel_rfl) (by intro _ _ _ h; exact h) HeldS (by rfl) (fun wz hz => ?_) ?_
      rotate_left
      · first | (go_simp; done) | (go_simp; with_reducible rfl)
      simp only [Act.put, List.setIfInBounds_toArray, List.set_cons_succ, List.set_cons_zero]
      have hf1 := for_any _ w4.drew tb l _ _ (HM.out.next q0) (Nat.le_refl _) n HNO.out _ (HND.out _ q0)
      refine Rg.wpD_do 2 (by kernel_rfl) (by simp only [List.getElem?_toArray, List.getElem?_cons_succ, List.getElem?_cons_zero]; rfl) (fun K hK => ?_)
      go_simp
      go_at_call 9
      refine Calls.mono hf1 ?_
      clear hf1
      rintro e w5 ⟨xa, rfl, hxa, b5⟩
      have q5 := below_next q0 b5
      refine hK _ _ (fun _ => HC.out _ q5) ?_
      clear hK K HeldS
      obtain ⟨qa, cpa, rfl⟩ := owns_form hxa
      have hf2 := refFor_any 10 _ l n _ w5 (HRL.out _ q5) (by have := H30.out.1; omega) (HND.out _ q5)
      refine Rg.wpD_do 5 (by kernel_rfl) (by simp only [List.getElem?_toArray, List.getElem?_cons_succ, List.getElem?_cons_zero]; rfl) (fun K hK => ?_)
      go_simp
      go_at_call 10
      refine Calls.mono hf2 ?_
      clear hf2
      rintro e w6 ⟨xb, rfl, hxb, b6⟩
      have q6 := below_next q5 b6
      refine hK _ _ (fun _ => HC.out _ q6) ?_
      clear hK K
      obtain ⟨qb, cpb, rfl⟩ := owns_form hxb
      have hsa := sameInts_yes _ _ _ w6 ((intR_of hxa).next b6) (intR_of hxb)
      refine Rg.wpD_do 6 (by kernel_rfl) (by simp only [List.getElem?_toArray, List.getElem?_cons_succ, List.getElem?_cons_zero]; rfl) (fun K hK => ?_)
      go_simp
      go_at_call 8
      refine Calls.mono hsa ?_
      clear hsa
      rintro e w7 ⟨rfl, b7⟩
      have q7 := below_next q6 b7
      refine hK _ _ (fun h => absurd h (by decide)) ?_
      clear hK K hxa hxb
      refine Rg.wpD_pure 7 (v := ?_) (by simp only [List.getElem?_toArray, List.getElem?_cons_succ, List.getElem?_cons_zero]; rfl) (by kernel_rfl) (by kernel_rfl) (by intro _ _ _ h; exact h) (by rfl) (fun wz => ?_) ?_
      rotate_left
      · first | (go_simp; done) | (go_simp; with_reducible rfl)
      simp only [Act.put, List.setIfInBounds_toArray, List.set_cons_succ, List.set_cons_zero]
      refine Rg.wpD_pure 8 (v := ?_) (by simp only [List.getElem?_toArray, List.getElem?_cons_succ, List.getElem?_cons_zero]; rfl) (by kernel_rfl) (by kernel_rfl) (by intro _ _ _ h; exact h) (by rfl) (fun wz => ?_) ?_
      rotate_left
      · first | (go_simp; done) | (go_simp; with_reducible rfl)
      simp only [Act.put, List.setIfInBounds_toArray, List.set_cons_succ, List.set_cons_zero]
      refine Rg.wpD_pure 10 (v := ?_) (by simp only [List.getElem?_toArray, List.getElem?_cons_succ, List.getElem?_cons_zero]; rfl) (by kernel_rfl) (by kernel_rfl) (by intro _ _ _ h; exact h) (by rfl) (fun wz => ?_) ?_
      rotate_left
      · first | (go_simp; done) | (go_simp; with_reducible rfl)
      simp only [Act.put, List.setIfInBounds_toArray, List.set_cons_succ, List.set_cons_zero]
      have hle := len_any _ _ _ _ _ _ (HM.out.next q7)
      refine Rg.wpD_do 9 (by kernel_rfl) (by simp only [List.getElem?_toArray, List.getElem?_cons_succ, List.getElem?_cons_zero]; rfl) (fun K hK => ?_)
      go_simp
      go_at_call 11
      refine Calls.mono hle ?_
      clear hle
      rintro e w8 ⟨rfl, rfl⟩
      refine hK _ _ (fun h => absurd h (by decide)) ?_
      clear hK K
      have hbu := refBucketed_any 10 _ l w8 (HRL.out _ q7) (by have := H30.out.1; omega) (fun r hr => by have := H30.out.2 r hr; omega)
      refine Rg.wpD_do 11 (by kernel_rfl) (by simp only [List.getElem?_toArray, List.getElem?_cons_succ, List.getElem?_cons_zero]; rfl) (fun K hK => ?_)
      go_simp
      go_at_call 12
      refine Calls.mono hbu ?_
      clear hbu
      rintro e w9 ⟨rfl, rfl⟩
      refine hK _ _ (fun h => absurd h (by decide)) ?_
      clear hK K
      refine Rg.wpD_pure 12 (v := ?_) (by simp only [List.getElem?_toArray, List.getElem?_cons_succ, List.getElem?_cons_zero]; rfl) (by kernel_rfl) (by kernel_rfl) (by intro _ _ _ h; exact h) (by rfl) (fun wz => ?_) ?_
      rotate_left
      · first | (go_simp; done) | (go_simp; with_reducible rfl)
      simp only [Act.put, List.setIfInBounds_toArray, List.set_cons_succ, List.set_cons_zero]
      refine Rg.wpD_pure 13 (v := ?_) (by simp only [List.getElem?_toArray, List.getElem?_cons_succ, List.getElem?_cons_zero]; rfl) (by kernel_rfl) (by kernel_rfl) (by intro _ _ _ h; exact h) (by rfl) (fun wz => ?_) ?_
      rotate_left
      · first | (go_simp; done) | (go_simp; with_reducible rfl)
      simp only [Act.put, List.setIfInBounds_toArray, List.set_cons_succ, List.set_cons_zero]
      refine Rg.wpD_pure 14 (v := ?_) (by simp only [List.getElem?_toArray, List.getElem?_cons_succ, List.getElem?_cons_zero]; rfl) (by kernel_rfl) (by kernel_rfl) (by intro _ _ _ h; exact h) (by rfl) (fun wz => ?_) ?_
      rotate_left
      · first | (go_simp; done) | (go_simp; with_reducible rfl)
      simp only [Act.put, List.setIfInBounds_toArray, List.set_cons_succ, List.set_cons_zero]
      refine Rg.wpD_done (by kernel_rfl) ?_
      have BF := below_next B4 q7
      go_wp2
      go_ret
      exact ⟨rfl, BF⟩

set_option maxRecDepth 100000 in
theorem bucketFor_lifted (os : Os) (started : os.Started) (H : Type) (enc : TypeId × Value → H) :
    ReturnsInHanded {} Tryz.checked os 3 .any (Rows.bucketForSpec.pre6 enc Tryz.prog Tryz.f3 Rows.bucketForRow.domain false) (Rows.bucketForSpec.post enc Tryz.prog Tryz.f3 false true false false) := by
  refine returnsInHanded_of_change_sized (C := Tryz.checked) ownNone started (by kernel_rfl) Tryz.func3
    (ChangeSpec.witness6 (enc := enc) (C := Tryz.checked) false ⟨#[], #[.slice none 0 0, .agg #[.int .i64 0, .string ⟨#[]⟩, .string ⟨#[]⟩, .slice none 0 0, .slice none 0 0]], []⟩ 8 (by kernel_rfl) (by kernel_rfl) (by kernel_rfl) (by kernel_rfl)) ?_
  intro W base args ds gs before hval hW _ hsz0 _
  have hW' := hW
  obtain ⟨p, q, hA0, hV, rfl, hfz, hnd⟩ := hW
  have hA : DataW.TrodAll enc Tryz.prog W 0 (fun _ => true) true Tryz.f3.params.toList args.toList ds p := hA0
  rw [Tryz.params3] at hA hval hsz0
  obtain ⟨v0, vs0, d0, ds0, p0, q0, hargs, rfl, rfl, h0, r0⟩ := trodAll_cons hA
  obtain ⟨v1, vs1, d1, ds1, p1, q1, rfl, rfl, rfl, h1, r1⟩ := trodAll_cons r0
  obtain ⟨rfl, rfl, rfl⟩ := trodAll_nil r1
  obtain rfl : args = #[v0, v1] := by cases args; simp_all
  obtain ⟨rfl, rfl⟩ := trodVars_none hV
  have hsz := List.all_eq_true.1 hsz0
  obtain ⟨a0, len0, cap0, rfl⟩ := okWide_slice Tryz.underlying22 (hval 0 22 v0 rfl rfl)
  have k0 := h0
  have lt0 : ∀ x ∈ p0, x.block < W.heap.size := by obtain ⟨m, hm⟩ := k0; exact DataW.trod_lt m _ _ _ hm
  obtain ⟨z0, w0, y0⟩ := Bk.rulesAt_of_reads k0 (fun n hn => by simpa using hsz n (DataW.weights_mem_each (j := 0) rfl rfl n hn))
  have k1 := h1
  have lt1 : ∀ x ∈ p1, x.block < W.heap.size := by obtain ⟨m, hm⟩ := k1; exact DataW.trod_lt m _ _ _ hm
  obtain ⟨z1, w1, y1⟩ := Bk.nodeAt_of_reads k1 (hval 1 26 v1 rfl rfl) (fun n hn => by simpa using hsz n (DataW.weights_mem_each (j := 1) rfl rfl n hn))
  clear hA0
  refine (bucketFor_walk W _ z0 w0 y0 v1 z1 w1 y1).mono fun e W' ⟨he, bel⟩ => ?_
  subst he
  exact ⟨_, rfl, _, _, _, [], _, [], hW', trodAll_mk1 (shut_bool Tryz.underlying4 _), (trodAll_cons_mk (Below.trod laidOut (by kernel_rfl) (of_decide_eq_true (by kernel_rfl)) k0 bel lt0) (trodAll_cons_mk (Below.trod laidOut (by kernel_rfl) (of_decide_eq_true (by kernel_rfl)) k1 bel lt1) trodAll_mk0)), rfl, bel.frame _, fun h => by cases h⟩

theorem bucketFor_said : Rows.BucketForSaid :=
  OpenClaim.holds_of_wide 3 Tryz.f3 rfl rfl rfl rfl rfl rfl rfl ⟨rfl, rfl, rfl, rfl, rfl⟩ rfl rfl rfl rfl rfl (by kernel_rfl) Tryz.func3 (by kernel_rfl)
    (of_decide_eq_true (by kernel_rfl)) (by unfold Func.isWrapper; first | (rw [if_pos (by decide +kernel)]; kernel_rfl) | (rw [if_neg (by decide +kernel)]; exact ⟨rfl, rfl⟩))
    (fun os started H enc _ => bucketFor_lifted os started H enc)
#print axioms bucketFor_said


end Go.Proofs.YtmahjhcinooihaaGreat
