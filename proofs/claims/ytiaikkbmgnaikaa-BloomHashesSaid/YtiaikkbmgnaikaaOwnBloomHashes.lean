/- For every kind, text, node and list of selectors (trees, no rings): the law tapestrierlaw13.BloomHashes returns true and leaves its arguments as they were; no condition. -/
import Derived.Test.YtiaikkbmgnaikaaBhRefW
import Derived.Test.YtiaikkbmgnaikaaBlMay
import Derived.Test.YtiaikkbmgnaikaaDear
import Derived.Test.YtiaikkbmgnaikaaNdArgs
import Derived.Test.YtiaikkbmgnaikaaBlArgs
import Derived.Test.YtiaikkbmgnaikaaRgIn
import Derived.ChangeMaps5
namespace Go.Proofs.Ytiaikkbmgnaikaa
open Go.Proofs.Ytiaikkbmgnaikaa.Tre
open Go Go.ChangeShapes Go.WideShapes Go.ChangeAt Go.ChangeMaps Go.RowKit Bl Wg Sl

theorem few_wants {s : Sel} (h : FewS s) : (wantsV s).length ≤ 1099511627776 := by
  have ha : ∀ i, (aboveV s i).length ≤ i ∧ ∀ c ∈ aboveV s i, FewC c := by
    intro i
    induction i with
    | zero => exact ⟨Nat.le_refl _, fun c hc => by simp [aboveV] at hc⟩
    | succ i ih =>
      rw [aboveV]
      split
      · rename_i q p hq hp
        split
        · refine ⟨by simp; exact ih.1, fun c hc => ?_⟩
          rcases List.mem_cons.1 hc with rfl | hc
          · exact h.2 p (List.mem_of_getElem? hp)
          · exact ih.2 c hc
        · exact ⟨Nat.zero_le _, fun c hc => by cases hc⟩
      · exact ⟨Nat.zero_le _, fun c hc => by cases hc⟩
  have hf : ∀ l : List Cp, (∀ c ∈ l, FewC c) → (l.flatMap cpNames).length ≤ 11 * l.length := by
    intro l
    induction l with
    | nil => intro _; simp
    | cons c l ih =>
      intro hc
      have h1 := ih (fun x hx => hc x (List.mem_cons_of_mem _ hx))
      obtain ⟨g1, g2, _⟩ := hc c (List.mem_cons_self ..)
      have h2 : (cpNames c).length ≤ 11 := by
        unfold cpNames
        have := names_len c.tag c.ids c.classes
        omega
      rw [List.flatMap_cons, List.length_append, List.length_cons]
      omega
  obtain ⟨a1, a2⟩ := ha (s.length - 1)
  have h3 := hf _ a2
  have h4 := h.1
  unfold wantsV
  omega
theorem names_ok {s : Sel} (h : SlOk s) : NamesOk s := fun p hp => ⟨(h p hp).1, (h p hp).2.1, (h p hp).2.2.1⟩

set_option maxRecDepth 100000 in
set_option maxHeartbeats 4000000 in
theorem bloomHashes_walk (w : World) (kind : Int) (_hk : (Lit.int .i64 kind).wf = true) (s : ByteArray) (hs : s.size ≤ 281474976710656) (v : Value) (n : Bk.Nn) (hn : Bk.NodeAt n w v) (hno : Bk.NnOk n) (u : Value) (l : List Sel) (hl : SelsR 11 w.heap.size w u l) (hlo : ∀ s ∈ l, SlOk s) :
    Calls Try.prog 3 #[.int .i64 kind, .string s, v, u] w fun e w' => e = .returned (.bool true) ∧ Below w.heap.size w w' := by
  obtain ⟨par, cv, av, rfl, hc, pa, ma, ca, rfl⟩ := hn
  obtain ⟨pc, cc, rfl⟩ := hc.len
  obtain ⟨p, cap, rfl⟩ := RowT.len hl
  have hmx := RowT.short hl
  unfold maxLen at hmx
  have hcs := hc.short
  unfold maxLen at hcs
  obtain ⟨w1, hw1⟩ : ∃ w1, w.alloc (.cells #[.int .i64 par, .string n.tag, .string n.id, .slice pc n.cls.length cc, .slice pa ma ca] 25) = w1 := ⟨_, rfl⟩
  have b1 : Below w.heap.size w w1 := by rw [← hw1]; exact (Below.refl _ w).alloc (Nat.le_refl _) _
  have k1 : Blk w1 w.heap.size 25 [.int .i64 par, .string n.tag, .string n.id, .slice pc n.cls.length cc, .slice pa ma ca] := by rw [← hw1]; exact Blk.new w _ _
  have s1 : w.heap.size < w1.heap.size := k1.lt
  have KN : Hid (Blk w1 w.heap.size 25 [.int .i64 par, .string n.tag, .string n.id, .slice pc n.cls.length cc, .slice pa ma ca]) := k1
  have HC : Hid (StrsR w (.slice pc n.cls.length cc) n.cls) := strs_of_row hc hno.2.2
  have HL : Hid (SelsR 11 w.heap.size w (.slice p l.length cap) l) := hl
  have HO : Hid (∀ s ∈ l, SlOk s) := hlo
  have HNO : Hid (Bk.NnOk n) := hno
  have hal := Bl.alive_any w1
  clear hl hlo hno hc k1
  go_enter Try.func3, Try.ntmps3
  go_wp2_with fail
  first | rw [hw1] | skip
  go_at_call 5
  refine Calls.mono hal ?_
  clear hal hw1
  rintro e w2 ⟨rfl, b2⟩
  have B2 := below_next b1 b2
  have hd := Dear_few _ l w2 ((HL.out.below 11 B2).mono 11 B2.size)
  go_wp2_with fail
  go_at_call 6
  refine Calls.mono hd ?_
  clear hd
  rintro e w3 ⟨t, rfl, HF, b3⟩
  have b13 : Below w1.heap.size w1 w3 := below_next b2 b3
  have B3 := below_next B2 b3
  have HB : Hid (_ ∧ _) := ⟨b13, B3⟩
  have x3 := (blk5 (KN.out.below b13 s1)).1.2.2.2.1
  clear b2 B2 b3
  cases t with
  | true =>
    clear HF b13 x3
    go_wp2
    go_ret
    exact ⟨rfl, HB.out.2⟩
  | false =>
  have HFW : Hid (FewL l) := HF.out rfl
  clear HF
  by_cases g1 : (300 : Int) < (s.size : Int)
  · go_wp2
    go_ret
    exact ⟨rfl, HB.out.2⟩
  by_cases g2 : (30 : Int) < (n.cls.length : Int)
  · go_wp2
    go_ret
    exact ⟨rfl, HB.out.2⟩
  go_wp2_with fail
  clear b13 B3 x3
  go_loopw [11] (fun x wr => ∃ i : Nat, x = .int .i64 i ∧ i ≤ l.length ∧ Below w1.heap.size w1 wr) (fun x _ => l.length - (intOf x).toNat)
  case atStart => exact ⟨0, rfl, Nat.zero_le _, HB.out.1⟩
  case round =>
    obtain ⟨i, rfl, hi, hb⟩ := hrel
    have hbw := b1.trans (hb.mono (Nat.le_of_lt s1))
    by_cases hil : i < l.length
    · have hii : (i : Int) < (l.length : Int) := by omega
      obtain ⟨z, hz⟩ : ∃ z, l[i]? = some z := ⟨_, List.getElem?_eq_getElem hil⟩
      have hzm := List.mem_of_getElem? hz
      have hwl := few_wants (HFW.out z hzm)
      have hnz := names_ok (HO.out z hzm)
      obtain ⟨b, off, x, he, hbn, hc1, hc2, hx, y0⟩ := SelsR.get HL.out hz
      subst he
      unfold maxLen at hc2
      obtain ⟨q, c, rfl⟩ := RowT.len hx
      have HSel : Hid (∀ X, Below wr.heap.size wr X → X.cell? ⟨b, off + i, none⟩ = some (.slice q z.length c)) := fun X hX => ((below_next hbw hX).cell (p := ⟨b, off + i, none⟩) hbn).trans y0
      have HW1 : Hid (∀ X, Below wr.heap.size wr X → Calls Try.prog 8 #[.agg #[.slice q z.length c]] X fun e w' => ∃ x, e = .returned x ∧ NumRow X.heap.size w' x (wantsV z) ∧ Below X.heap.size X w') := fun X hX => wants_any 10 _ z X ((PartsR.below hx (below_next hbw hX)).mono (below_next hbw hX).size) hnz hwl
      have HW2 : Hid (∀ X, Below wr.heap.size wr X → Calls Try.prog 9 #[.agg #[.slice q z.length c]] X fun e w' => ∃ x, e = .returned x ∧ NumRow X.heap.size w' x (wantsV z) ∧ Below X.heap.size X w') := fun X hX => refWants_any 10 _ z X ((PartsR.below hx (below_next hbw hX)).mono (below_next hbw hX).size) hnz hwl
      have hi1 : (i : Int) + 1 ≤ 9223372036854775807 := by omega
      generalize wantsV z = wz at *
      clear hz hzm hnz hx y0
      go_upto_region 8 with fail
      refine Rg.wpD_begin [0, 1, 2, 3, 4, 5, 6, 7, 8] (fun X => X.cell? ⟨b, off + i, none⟩ = some (.slice q z.length c)) (by kernel_rfl) ?_
      have q0 : Below wr.heap.size wr wr.drew := below_drew (Below.refl _ _)
      have HeldS := HSel.out _ q0
      refine Rg.wpD_load 0 (v := ?_) (by simp only [List.getElem?_toArray, List.getElem?_cons_zero]; rfl) (by kernel_rfl) (by kernel_rfl) (by intro _ _ _ h; exact h) HeldS (by rfl) (fun wz hz => ?_) ?_
      rotate_left
      · first | (go_simp; done) | (go_simp; with_reducible rfl)
      simp only [Act.put, List.setIfInBounds_toArray, List.set_cons_succ, List.set_cons_zero]
      refine Rg.wpD_load 1 (v := ?_) (by simp only [List.getElem?_toArray, List.getElem?_cons_succ, List.getElem?_cons_zero]; rfl) (by kernel_rfl) (by kernel_rfl) (by intro _ _ _ h; exact h) HeldS (by rfl) (fun wz hz => ?_) ?_
      rotate_left
      · first | (go_simp; done) | (go_simp; with_reducible rfl)
      simp only [Act.put, List.setIfInBounds_toArray, List.set_cons_succ, List.set_cons_zero]
      refine Rg.wpD_load 2 (v := ?_) (by simp only [List.getElem?_toArray, List.getElem?_cons_succ, List.getElem?_cons_zero]; rfl) (by kernel_rfl) (by kernel_rfl) (by intro _ _ _ h; exact h) HeldS (by rfl) (fun wz hz => ?_) ?_
      rotate_left
      · first | (go_simp; done) | (go_simp; with_reducible rfl)
      simp only [Act.put, List.setIfInBounds_toArray, List.set_cons_succ, List.set_cons_zero]
      refine Rg.wpD_load 3 (v := ?_) (by simp only [List.getElem?_toArray, List.getElem?_cons_succ, List.getElem?_cons_zero]; rfl) (by kernel_rfl) (by kernel_rfl) (by intro _ _ _ h; exact h) HeldS (by rfl) (fun wz hz => ?_) ?_
      rotate_left
      · first | (go_simp; done) | (go_simp; with_reducible rfl)
      simp only [Act.put, List.setIfInBounds_toArray, List.set_cons_succ, List.set_cons_zero]
      refine Rg.wpD_load 5 (v := ?_) (by simp only [List.getElem?_toArray, List.getElem?_cons_succ, List.getElem?_cons_zero]; rfl) (by kernel_rfl) (by kernel_rfl) (by intro _ _ _ h; exact h) HeldS (by rfl) (fun wz hz => ?_) ?_
      rotate_left
      · first | (go_simp; done) | (go_simp; with_reducible rfl)
      simp only [Act.put, List.setIfInBounds_toArray, List.set_cons_succ, List.set_cons_zero]
      refine Rg.wpD_load 6 (v := ?_) (by simp only [List.getElem?_toArray, List.getElem?_cons_succ, List.getElem?_cons_zero]; rfl) (by kernel_rfl) (by kernel_rfl) (by intro _ _ _ h; exact h) HeldS (by rfl) (fun wz hz => ?_) ?_
      rotate_left
      · first | (go_simp; done) | (go_simp; with_reducible rfl)
      simp only [Act.put, List.setIfInBounds_toArray, List.set_cons_succ, List.set_cons_zero]
      refine Rg.wpD_load 7 (v := ?_) (by simp only [List.getElem?_toArray, List.getElem?_cons_succ, List.getElem?_cons_zero]; rfl) (by kernel_rfl) (by kernel_rfl) (by intro _ _ _ h; exact h) HeldS (by rfl) (fun wz hz => ?_) ?_
      rotate_left
      · first | (go_simp; done) | (go_simp; with_reducible rfl)
      simp only [Act.put, List.setIfInBounds_toArray, List.set_cons_succ, List.set_cons_zero]
      refine Rg.wpD_load 8 (v := ?_) (by simp only [List.getElem?_toArray, List.getElem?_cons_succ, List.getElem?_cons_zero]; rfl) (by kernel_rfl) (by kernel_rfl) (by intro _ _ _ h; exact h) HeldS (by rfl) (fun wz hz => ?_) ?_
      rotate_left
      · first | (go_simp; done) | (go_simp; with_reducible rfl)
      simp only [Act.put, List.setIfInBounds_toArray, List.set_cons_succ, List.set_cons_zero]
      refine Rg.wpD_do 4 (by kernel_rfl) (by simp only [List.getElem?_toArray, List.getElem?_cons_succ, List.getElem?_cons_zero]; rfl) (fun K hK => ?_)
      go_simp
      go_at_call 8
      refine Calls.mono (HW1.out _ q0) ?_
      rintro e w4 ⟨x4, rfl, hr4, b4⟩
      have q4 := below_next q0 b4
      refine hK _ _ (fun _ => HSel.out _ q4) ?_
      clear hK K HeldS
      refine Rg.wpD_do 9 (by kernel_rfl) (by simp only [List.getElem?_toArray, List.getElem?_cons_succ, List.getElem?_cons_zero]; rfl) (fun K hK => ?_)
      go_simp
      go_at_call 9
      refine Calls.mono (HW2.out _ q4) ?_
      rintro e w5 ⟨x5, rfl, hr5, b5⟩
      have q5 := below_next q4 b5
      refine hK _ _ (fun h => absurd h (by decide)) ?_
      clear hK K
      have hsame := sameI_yes x4 x5 _ w5 ((NumRow.ints hr4).kept (fun r hr => b5.block r (owns_lt hr4 hr).2)) (NumRow.ints hr5)
      refine Rg.wpD_do 10 (by kernel_rfl) (by simp only [List.getElem?_toArray, List.getElem?_cons_succ, List.getElem?_cons_zero]; rfl) (fun K hK => ?_)
      go_simp
      go_at_call 7
      refine Calls.mono hsame ?_
      clear hsame
      rintro e w6 ⟨rfl, b6⟩
      have q6 := below_next q5 b6
      refine hK _ _ (fun h => absurd h (by decide)) ?_
      clear hK K
      refine Rg.wpD_pure 11 (v := ?_) (by simp only [List.getElem?_toArray, List.getElem?_cons_succ, List.getElem?_cons_zero]; rfl) (by kernel_rfl) (by kernel_rfl) (by intro _ _ _ h; exact h) (by rfl) (fun wz => ?_) ?_
      rotate_left
      · first | (go_simp; done) | (go_simp; with_reducible rfl)
      simp only [Act.put, List.setIfInBounds_toArray, List.set_cons_succ, List.set_cons_zero]
      refine Rg.wpD_done (by kernel_rfl) ?_
      have hB6 := below_next hb q6
      clear hr4 hr5 b4 b5 b6 q0 q4 q5 q6 HW1 HW2 HSel
      go_wp2
      first | exact ⟨⟨i + 1, by go_num, by omega, hB6⟩, by simp [intOf] <;> omega⟩ | (go_roundw; case rel => exact ⟨i + 1, by go_num, by omega, hB6⟩; case measure => simp [intOf] <;> omega)
    · have hii : ¬ (i : Int) < (l.length : Int) := by omega
      have hh1 := hash_any kind s hs wr
      have hlt := hash_lt kind s
      have HH2 : Hid (∀ X, Calls Try.prog 11 #[.int .i64 kind, .string s] X fun e w' => e = .returned (.int .i64 (hashV kind s)) ∧ w' = X) := fun X => refHash_any kind s hs X
      have HSn : Hid (∀ X, Below wr.heap.size wr X → X.cell? ⟨w.heap.size, 0, none⟩ = some (.int .i64 par) ∧ X.cell? ⟨w.heap.size, 1, none⟩ = some (.string n.tag) ∧ X.cell? ⟨w.heap.size, 2, none⟩ = some (.string n.id) ∧ X.cell? ⟨w.heap.size, 3, none⟩ = some (.slice pc n.cls.length cc) ∧ X.cell? ⟨w.heap.size, 4, none⟩ = some (.slice pa ma ca)) := fun X hX => (blk5 (KN.out.below (below_next hb hX) s1)).1
      have HSt : Hid (∀ X, Below wr.heap.size wr X → StrsR X (.slice pc n.cls.length cc) n.cls) := fun X hX => HC.out.kept (fun r h1 h2 => (below_next hbw hX).block r (HC.out.lt h2 h1))
      generalize hashV kind s = Hv at *
      have hv0 : (0 : Int) ≤ (Hv : Int) := by omega
      have hv1 : (Hv : Int) < 4294967296 := by omega
      clear hlt
      go_wp2_with fail
      go_at_call 10
      refine Calls.mono hh1 ?_
      clear hh1
      rintro e w4 ⟨rfl, hww⟩
      obtain rfl := hww.symm
      clear hww
      go_upto_region 11 with fail
      refine Rg.wpD_begin [0, 1, 2, 3, 4, 5, 6, 7, 8, 9, 10, 11, 12, 13, 14, 15, 16] (fun X => X.cell? ⟨w.heap.size, 0, none⟩ = some (.int .i64 par) ∧ X.cell? ⟨w.heap.size, 1, none⟩ = some (.string n.tag) ∧ X.cell? ⟨w.heap.size, 2, none⟩ = some (.string n.id) ∧ X.cell? ⟨w.heap.size, 3, none⟩ = some (.slice pc n.cls.length cc) ∧ X.cell? ⟨w.heap.size, 4, none⟩ = some (.slice pa ma ca)) (by kernel_rfl) ?_
      have q0 : Below wr.heap.size wr wr.drew := below_drew (Below.refl _ _)
      have HeldS := HSn.out _ q0
      refine Rg.wpD_load 0 (v := ?_) (by simp only [List.getElem?_toArray, List.getElem?_cons_zero]; rfl) (by kernel_rfl) (by kernel_rfl) (by intro _ _ _ h; exact h) HeldS (by rfl) (fun wz hz => ?_) ?_
      rotate_left
      · first | (go_simp; done) | (go_simp; with_reducible rfl)
      simp only [Act.put, List.setIfInBounds_toArray, List.set_cons_succ, List.set_cons_zero]
      refine Rg.wpD_load 1 (v := ?_) (by simp only [List.getElem?_toArray, List.getElem?_cons_succ, List.getElem?_cons_zero]; rfl) (by kernel_rfl) (by kernel_rfl) (by intro _ _ _ h; exact h) HeldS (by rfl) (fun wz hz => ?_) ?_
      rotate_left
      · first | (go_simp; done) | (go_simp; with_reducible rfl)
      simp only [Act.put, List.setIfInBounds_toArray, List.set_cons_succ, List.set_cons_zero]
      refine Rg.wpD_load 2 (v := ?_) (by simp only [List.getElem?_toArray, List.getElem?_cons_succ, List.getElem?_cons_zero]; rfl) (by kernel_rfl) (by kernel_rfl) (by intro _ _ _ h; exact h) HeldS (by rfl) (fun wz hz => ?_) ?_
      rotate_left
      · first | (go_simp; done) | (go_simp; with_reducible rfl)
      simp only [Act.put, List.setIfInBounds_toArray, List.set_cons_succ, List.set_cons_zero]
      refine Rg.wpD_do 3 (by kernel_rfl) (by simp only [List.getElem?_toArray, List.getElem?_cons_succ, List.getElem?_cons_zero]; rfl) (fun K hK => ?_)
      go_simp
      go_at_call 11
      refine Calls.mono (HH2.out _) ?_
      rintro e w5 ⟨rfl, hww⟩
      obtain rfl := hww
      refine hK _ _ (fun _ => HSn.out _ q0) ?_
      clear hK K
      refine Rg.wpD_load 4 (v := ?_) (by simp only [List.getElem?_toArray, List.getElem?_cons_succ, List.getElem?_cons_zero]; rfl) (by kernel_rfl) (by kernel_rfl) (by intro _ _ _ h; exact h) HeldS (by rfl) (fun wz hz => ?_) ?_
      rotate_left
      · first | (go_simp; done) | (go_simp; with_reducible rfl)
      simp only [Act.put, List.setIfInBounds_toArray, List.set_cons_succ, List.set_cons_zero]
      refine Rg.wpD_load 5 (v := ?_) (by simp only [List.getElem?_toArray, List.getElem?_cons_succ, List.getElem?_cons_zero]; rfl) (by kernel_rfl) (by kernel_rfl) (by intro _ _ _ h; exact h) HeldS (by rfl) (fun wz hz => ?_) ?_
      rotate_left
      · first | (go_simp; done) | (go_simp; with_reducible rfl)
      simp only [Act.put, List.setIfInBounds_toArray, List.set_cons_succ, List.set_cons_zero]
      refine Rg.wpD_load 6 (v := ?_) (by simp only [List.getElem?_toArray, List.getElem?_cons_succ, List.getElem?_cons_zero]; rfl) (by kernel_rfl) (by kernel_rfl) (by intro _ _ _ h; exact h) HeldS (by rfl) (fun wz hz => ?_) ?_
      rotate_left
      · first | (go_simp; done) | (go_simp; with_reducible rfl)
      simp only [Act.put, List.setIfInBounds_toArray, List.set_cons_succ, List.set_cons_zero]
      refine Rg.wpD_load 7 (v := ?_) (by simp only [List.getElem?_toArray, List.getElem?_cons_succ, List.getElem?_cons_zero]; rfl) (by kernel_rfl) (by kernel_rfl) (by intro _ _ _ h; exact h) HeldS (by rfl) (fun wz hz => ?_) ?_
      rotate_left
      · first | (go_simp; done) | (go_simp; with_reducible rfl)
      simp only [Act.put, List.setIfInBounds_toArray, List.set_cons_succ, List.set_cons_zero]
      refine Rg.wpD_load 8 (v := ?_) (by simp only [List.getElem?_toArray, List.getElem?_cons_succ, List.getElem?_cons_zero]; rfl) (by kernel_rfl) (by kernel_rfl) (by intro _ _ _ h; exact h) HeldS (by rfl) (fun wz hz => ?_) ?_
      rotate_left
      · first | (go_simp; done) | (go_simp; with_reducible rfl)
      simp only [Act.put, List.setIfInBounds_toArray, List.set_cons_succ, List.set_cons_zero]
      refine Rg.wpD_load 9 (v := ?_) (by simp only [List.getElem?_toArray, List.getElem?_cons_succ, List.getElem?_cons_zero]; rfl) (by kernel_rfl) (by kernel_rfl) (by intro _ _ _ h; exact h) HeldS (by rfl) (fun wz hz => ?_) ?_
      rotate_left
      · first | (go_simp; done) | (go_simp; with_reducible rfl)
      simp only [Act.put, List.setIfInBounds_toArray, List.set_cons_succ, List.set_cons_zero]
      refine Rg.wpD_load 10 (v := ?_) (by simp only [List.getElem?_toArray, List.getElem?_cons_succ, List.getElem?_cons_zero]; rfl) (by kernel_rfl) (by kernel_rfl) (by intro _ _ _ h; exact h) HeldS (by rfl) (fun wz hz => ?_) ?_
      rotate_left
      · first | (go_simp; done) | (go_simp; with_reducible rfl)
      simp only [Act.put, List.setIfInBounds_toArray, List.set_cons_succ, List.set_cons_zero]
      refine Rg.wpD_load 11 (v := ?_) (by simp only [List.getElem?_toArray, List.getElem?_cons_succ, List.getElem?_cons_zero]; rfl) (by kernel_rfl) (by kernel_rfl) (by intro _ _ _ h; exact h) HeldS (by rfl) (fun wz hz => ?_) ?_
      rotate_left
      · first | (go_simp; done) | (go_simp; with_reducible rfl)
      simp only [Act.put, List.setIfInBounds_toArray, List.set_cons_succ, List.set_cons_zero]
      refine Rg.wpD_load 12 (v := ?_) (by simp only [List.getElem?_toArray, List.getElem?_cons_succ, List.getElem?_cons_zero]; rfl) (by kernel_rfl) (by kernel_rfl) (by intro _ _ _ h; exact h) HeldS (by rfl) (fun wz hz => ?_) ?_
      rotate_left
      · first | (go_simp; done) | (go_simp; with_reducible rfl)
      simp only [Act.put, List.setIfInBounds_toArray, List.set_cons_succ, List.set_cons_zero]
      refine Rg.wpD_load 13 (v := ?_) (by simp only [List.getElem?_toArray, List.getElem?_cons_succ, List.getElem?_cons_zero]; rfl) (by kernel_rfl) (by kernel_rfl) (by intro _ _ _ h; exact h) HeldS (by rfl) (fun wz hz => ?_) ?_
      rotate_left
      · first | (go_simp; done) | (go_simp; with_reducible rfl)
      simp only [Act.put, List.setIfInBounds_toArray, List.set_cons_succ, List.set_cons_zero]
      refine Rg.wpD_load 14 (v := ?_) (by simp only [List.getElem?_toArray, List.getElem?_cons_succ, List.getElem?_cons_zero]; rfl) (by kernel_rfl) (by kernel_rfl) (by intro _ _ _ h; exact h) HeldS (by rfl) (fun wz hz => ?_) ?_
      rotate_left
      · first | (go_simp; done) | (go_simp; with_reducible rfl)
      simp only [Act.put, List.setIfInBounds_toArray, List.set_cons_succ, List.set_cons_zero]
      refine Rg.wpD_load 16 (v := ?_) (by simp only [List.getElem?_toArray, List.getElem?_cons_succ, List.getElem?_cons_zero]; rfl) (by kernel_rfl) (by kernel_rfl) (by intro _ _ _ h; exact h) HeldS (by rfl) (fun wz hz => ?_) ?_
      rotate_left
      · first | (go_simp; done) | (go_simp; with_reducible rfl)
      simp only [Act.put, List.setIfInBounds_toArray, List.set_cons_succ, List.set_cons_zero]
      refine Rg.wpD_do 15 (by kernel_rfl) (by simp only [List.getElem?_toArray, List.getElem?_cons_succ, List.getElem?_cons_zero]; rfl) (fun K hK => ?_)
      go_simp
      go_at_call 12
      refine Calls.mono (of_any par n.tag n.id pc cc pa ma ca n.cls _ HNO.out.1 HNO.out.2.1 (HSt.out _ q0) (by omega)) ?_
      rintro e w6 ⟨x6, rfl, hr6, b6⟩
      have q6 := below_next q0 b6
      refine hK _ _ (fun _ => HSn.out _ q6) ?_
      clear hK K HeldS
      refine Rg.wpD_do 17 (by kernel_rfl) (by simp only [List.getElem?_toArray, List.getElem?_cons_succ, List.getElem?_cons_zero]; rfl) (fun K hK => ?_)
      go_simp
      go_at_call 13
      refine Calls.mono (refOf_any par n.tag n.id pc cc pa ma ca n.cls _ HNO.out.1 HNO.out.2.1 (HSt.out _ q6) (by omega)) ?_
      rintro e w7 ⟨x7, rfl, hr7, b7⟩
      have q7 := below_next q6 b7
      refine hK _ _ (fun h => absurd h (by decide)) ?_
      clear hK K
      have hsame := sameI_yes x6 x7 _ w7 ((NumRow.ints hr6).kept (fun r hr => b7.block r (owns_lt hr6 hr).2)) (NumRow.ints hr7)
      refine Rg.wpD_do 18 (by kernel_rfl) (by simp only [List.getElem?_toArray, List.getElem?_cons_succ, List.getElem?_cons_zero]; rfl) (fun K hK => ?_)
      go_simp
      go_at_call 7
      refine Calls.mono hsame ?_
      clear hsame
      rintro e w8 ⟨rfl, b8⟩
      have q8 := below_next q7 b8
      refine hK _ _ (fun h => absurd h (by decide)) ?_
      clear hK K
      refine Rg.wpD_pure 19 (v := ?_) (by simp only [List.getElem?_toArray, List.getElem?_cons_succ, List.getElem?_cons_zero]; rfl) (by kernel_rfl) (by kernel_rfl) (by intro _ _ _ h; exact h) (by rfl) (fun wz => ?_) ?_
      rotate_left
      · first | (go_simp; done) | (go_simp; with_reducible rfl)
      simp only [Act.put, List.setIfInBounds_toArray, List.set_cons_succ, List.set_cons_zero]
      refine Rg.wpD_pure 20 (v := ?_) (by simp only [List.getElem?_toArray, List.getElem?_cons_succ, List.getElem?_cons_zero]; rfl) (by kernel_rfl) (by kernel_rfl) (by intro _ _ _ h; exact h) (by rfl) (fun wz => ?_) ?_
      rotate_left
      · first | (go_simp; done) | (go_simp; with_reducible rfl)
      simp only [Act.put, List.setIfInBounds_toArray, List.set_cons_succ, List.set_cons_zero]
      refine Rg.wpD_done (by kernel_rfl) ?_
      have hB8 := below_next hbw q8
      clear hr6 hr7 b6 b7 b8 q0 q6 q7 q8 HSn HSt HH2
      go_wp2
      go_ret
      exact ⟨rfl, hB8⟩


set_option maxRecDepth 100000 in
theorem bloomHashes_lifted (os : Os) (started : os.Started) (H : Type) (enc : TypeId × Value → H) :
    ReturnsInHanded {} Try.checked os 3 .any (Rows.bloomHashesSpec.pre6 enc Try.prog Try.f3 Rows.bloomHashesRow.domain false) (Rows.bloomHashesSpec.post enc Try.prog Try.f3 false true false false) := by
  refine returnsInHanded_of_change_sized (C := Try.checked) ownNone started (by kernel_rfl) Try.func3
    (ChangeSpec.witness6 (enc := enc) (C := Try.checked) false ⟨#[], #[.int .i64 0, .string ⟨#[]⟩, .agg #[.int .i64 0, .string ⟨#[]⟩, .string ⟨#[]⟩, .slice none 0 0, .slice none 0 0], .slice none 0 0], []⟩ 8 (by kernel_rfl) (by kernel_rfl) (by kernel_rfl) (by kernel_rfl)) ?_
  intro W base args ds gs before hval hW _ hsz0 _
  have hW' := hW
  obtain ⟨p, q, hA0, hV, rfl, hfz, hnd⟩ := hW
  have hA : DataW.TrodAll enc Try.prog W 0 (fun _ => true) true Try.f3.params.toList args.toList ds p := hA0
  rw [Try.params3] at hA hval hsz0
  obtain ⟨v0, vs0, d0, ds0, p0, q0, hargs, rfl, rfl, h0, r0⟩ := trodAll_cons hA
  obtain ⟨v1, vs1, d1, ds1, p1, q1, rfl, rfl, rfl, h1, r1⟩ := trodAll_cons r0
  obtain ⟨v2, vs2, d2, ds2, p2, q2, rfl, rfl, rfl, h2, r2⟩ := trodAll_cons r1
  obtain ⟨v3, vs3, d3, ds3, p3, q3, rfl, rfl, rfl, h3, r3⟩ := trodAll_cons r2
  obtain ⟨rfl, rfl, rfl⟩ := trodAll_nil r3
  obtain rfl : args = #[v0, v1, v2, v3] := by cases args; simp_all
  obtain ⟨rfl, rfl⟩ := trodVars_none hV
  have hsz := List.all_eq_true.1 hsz0
  obtain ⟨a0, rfl, rfl, rfl, w0⟩ := open_int Try.underlying3 (hval 0 3 v0 rfl rfl) h0
  obtain ⟨s1, rfl, rfl, rfl, w1⟩ := open_string Try.underlying9 (hval 1 9 v1 rfl rfl) h1
  have y1 : s1.size ≤ 281474976710656 := short_string (by simpa using hsz s1.data.toList.length (DataW.weights_mem_each (j := 1) rfl rfl _ (by simp [DataW.weights])))
  have k2 := h2
  have lt2 : ∀ x ∈ p2, x.block < W.heap.size := by obtain ⟨m, hm⟩ := k2; exact DataW.trod_lt m _ _ _ hm
  obtain ⟨z2, w2, y2⟩ := Bk.nodeAt_of_reads k2 (hval 2 25 v2 rfl rfl) (fun n hn => by simpa using hsz n (DataW.weights_mem_each (j := 2) rfl rfl n hn))
  obtain ⟨a3, len3, cap3, rfl⟩ := okWide_slice Try.underlying26 (hval 3 26 v3 rfl rfl)
  have k3 := h3
  have lt3 : ∀ x ∈ p3, x.block < W.heap.size := by obtain ⟨m, hm⟩ := k3; exact DataW.trod_lt m _ _ _ hm
  obtain ⟨z3, w3, y3⟩ := selsAt_of_reads k3 (fun n hn => by simpa using hsz n (DataW.weights_mem_each (j := 3) rfl rfl n hn))
  clear hA0
  refine (bloomHashes_walk W a0 w0 s1 y1 v2 z2 w2 y2 _ z3 w3 y3).mono fun e W' ⟨he, bel⟩ => ?_
  subst he
  exact ⟨_, rfl, _, _, _, [], _, [], hW', trodAll_mk1 (shut_bool Try.underlying4 _), (trodAll_cons_mk (shut_int Try.underlying3 w0) (trodAll_cons_mk (shut_string Try.underlying9 w1) (trodAll_cons_mk (Below.trod laidOut (by kernel_rfl) (of_decide_eq_true (by kernel_rfl)) k2 bel lt2) (trodAll_cons_mk (Below.trod laidOut (by kernel_rfl) (of_decide_eq_true (by kernel_rfl)) k3 bel lt3) trodAll_mk0)))), rfl, bel.frame _, fun h => by cases h⟩

theorem bloomHashes_said : Rows.BloomHashesSaid :=
  OpenClaim.holds_of_wide 3 Try.f3 rfl rfl rfl rfl rfl rfl rfl ⟨rfl, rfl, rfl, rfl, rfl⟩ rfl rfl rfl rfl rfl (by kernel_rfl) Try.func3 (by kernel_rfl)
    (of_decide_eq_true (by kernel_rfl)) (by unfold Func.isWrapper; first | (rw [if_pos (by decide +kernel)]; kernel_rfl) | (rw [if_neg (by decide +kernel)]; exact ⟨rfl, rfl⟩))
    (fun os started H enc _ => bloomHashes_lifted os started H enc)
#print axioms bloomHashes_said

end Go.Proofs.Ytiaikkbmgnaikaa
