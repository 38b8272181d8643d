/- The document's own buckets (tapestrierref9: has, bucketed, For, Bucketed), at every list of rules. -/
import Derived.Test.YtmahjhcinooihaaGreatBkAlive
namespace Go.Proofs.YtmahjhcinooihaaGreat.Bk
open Go.Proofs.YtmahjhcinooihaaGreat.Tre
open Go Go.RowKit Go.Shelf Sl Wg

/-! ### plain facts -/
def mB {α : Type} [DecidableEq α] (x : α) (l : List α) : Bool := l.any (fun y => decide (y = x))
theorem mB_iff {α : Type} [DecidableEq α] (x : α) (l : List α) : mB x l = true ↔ x ∈ l := by
  unfold mB
  rw [List.any_eq_true]
  constructor
  · rintro ⟨y, hy, e⟩
    rw [← of_decide_eq_true e]; exact hy
  · exact fun h => ⟨x, h, decide_eq_true rfl⟩
def bucV (n : Nn) (s : Sel) : Bool := match selB s with
  | some b => mB b (bktsV n)
  | none => false
theorem hit_buc (n : Nn) (r : Rl) : hitB (bktsV n) r = r.any (bucV n) := by
  rw [Bool.eq_iff_iff]
  unfold hitB inB
  simp only [List.any_eq_true, decide_eq_true_eq]
  constructor
  · rintro ⟨b, hb, s, hs, e⟩
    exact ⟨s, hs, by unfold bucV; rw [e]; exact (mB_iff _ _).2 hb⟩
  · rintro ⟨s, hs, h⟩
    unfold bucV at h
    cases e : selB s with
    | none => rw [e] at h; cases h
    | some b => rw [e] at h; exact ⟨b, (mB_iff _ _).1 h, s, hs, e⟩
theorem mem_bkts (n : Nn) (b : Bkt) : b ∈ bktsV n ↔ b = (0, ⟨#[]⟩) ∨ b = (1, n.tag) ∨ (n.id ≠ ⟨#[]⟩ ∧ b = (3, n.id)) ∨ ∃ c ∈ n.cls, b = (2, c) := by
  unfold bktsV
  rw [List.mem_append, List.mem_append, List.mem_map]
  constructor
  · rintro ((h | h) | ⟨c, hc, rfl⟩)
    · simp only [List.mem_cons, List.not_mem_nil, or_false] at h
      rcases h with h | h
      · exact .inl h
      · exact .inr (.inl h)
    · split at h
      · cases h
      · rename_i e; rw [List.mem_singleton] at h; exact .inr (.inr (.inl ⟨e, h⟩))
    · exact .inr (.inr (.inr ⟨c, hc, rfl⟩))
  · rintro (h | h | ⟨e, h⟩ | ⟨c, hc, h⟩)
    · exact .inl (.inl (by rw [h]; simp))
    · exact .inl (.inl (by rw [h]; simp))
    · exact .inl (.inr (by rw [if_neg e]; exact List.mem_singleton.2 h))
    · exact .inr ⟨c, hc, h.symm⟩
theorem buc_id {n : Nn} {s : Sel} {p : Pt} {x : ByteArray} {l : List ByteArray} (hs : selB s = some (bktOf p.2)) (h : p.2.ids = x :: l) : bucV n s = (decide (n.id ≠ ⟨#[]⟩) && decide (x = n.id)) := by
  unfold bucV
  rw [hs]
  have hb : bktOf p.2 = (3, x) := by unfold bktOf; rw [h]
  rw [hb, Bool.eq_iff_iff]
  simp only [decide_eq_true_eq, Bool.and_eq_true]
  rw [mB_iff, mem_bkts]
  constructor
  · rintro (h | h | ⟨e, h⟩ | ⟨c, _, h⟩)
    · cases congrArg Prod.fst h
    · cases congrArg Prod.fst h
    · exact ⟨e, congrArg Prod.snd h⟩
    · cases congrArg Prod.fst h
  · rintro ⟨e, h⟩
    exact .inr (.inr (.inl ⟨e, by rw [h]⟩))
theorem buc_class {n : Nn} {s : Sel} {p : Pt} {x : ByteArray} {l : List ByteArray} (hs : selB s = some (bktOf p.2)) (h0 : p.2.ids = []) (h : p.2.classes = x :: l) : bucV n s = mB x n.cls := by
  unfold bucV
  rw [hs]
  have hb : bktOf p.2 = (2, x) := by unfold bktOf; rw [h0, h]
  rw [hb, Bool.eq_iff_iff, mB_iff, mB_iff, mem_bkts]
  constructor
  · rintro (h | h | ⟨e, h⟩ | ⟨c, hc, h⟩)
    · cases congrArg Prod.fst h
    · cases congrArg Prod.fst h
    · cases congrArg Prod.fst h
    · have : x = c := congrArg Prod.snd h
      rw [this]; exact hc
  · exact fun h => .inr (.inr (.inr ⟨x, h, rfl⟩))
theorem buc_tag {n : Nn} {s : Sel} {p : Pt} (hs : selB s = some (bktOf p.2)) (h0 : p.2.ids = []) (h1 : p.2.classes = []) (ht : p.2.tag ≠ ⟨#[]⟩) : bucV n s = decide (p.2.tag = n.tag) := by
  unfold bucV
  rw [hs]
  have hb : bktOf p.2 = (1, p.2.tag) := by unfold bktOf; rw [h0, h1]; exact if_neg ht
  rw [hb, Bool.eq_iff_iff, mB_iff, mem_bkts, decide_eq_true_eq]
  constructor
  · rintro (h | h | ⟨e, h⟩ | ⟨c, _, h⟩)
    · cases congrArg Prod.fst h
    · exact congrArg Prod.snd h
    · cases congrArg Prod.fst h
    · cases congrArg Prod.fst h
  · exact fun h => .inr (.inl (by rw [h]))
theorem buc_all {n : Nn} {s : Sel} {p : Pt} (hs : selB s = some (bktOf p.2)) (h0 : p.2.ids = []) (h1 : p.2.classes = []) (ht : p.2.tag = ⟨#[]⟩) : bucV n s = true := by
  unfold bucV
  rw [hs]
  have hb : bktOf p.2 = (0, ⟨#[]⟩) := by unfold bktOf; rw [h0, h1]; exact if_pos ht
  rw [hb]
  exact (mB_iff _ _).2 ((mem_bkts n _).2 (.inl rfl))

theorem beq_false {a b : ByteArray} (h : a ≠ b) : (a.toList == b.toList) = false := by
  rw [ByteArray.toList_eq, ByteArray.toList_eq, beq_eq_false_iff_ne]
  intro e
  exact h (by
    cases a with
    | mk x =>
      cases b with
      | mk y => simp only [ByteArray.mk.injEq]; exact Array.toList_inj.1 e)
theorem eqlEmpty (s : ByteArray) : s.toList.isEmpty = decide (s = ⟨#[]⟩) := by
  by_cases h : s = ⟨#[]⟩
  · rw [h, ByteArray.toList_eq]; rfl
  · rw [decide_eq_false h]
    have := bytes_ne h
    cases e : s.toList with
    | nil => rw [e] at this; cases this
    | cons a l => rfl
set_option maxRecDepth 100000 in
set_option maxHeartbeats 1000000 in
theorem has_any (v : Value) (l : List ByteArray) (x : ByteArray) (w : World) (hv : RowT 1 StrC w.heap.size w v l) :
    Calls Tryz.prog 39 #[v, .string x] w fun e w' => e = .returned (.bool (mB x l)) ∧ w' = w := by
  obtain ⟨q, cap, rfl⟩ := RowT.len hv
  have HV : Hid (RowT 1 StrC w.heap.size w (.slice q l.length cap) l) := hv
  obtain ⟨V, hV⟩ : ∃ V, mB x l = V := ⟨_, rfl⟩
  rw [hV]
  have HVV : Hid (mB x l = V) := hV
  clear hv hV
  go_enter Tryz.func39, Tryz.ntmps39
  go_wp2
  go_loopw [5] (fun y wr => ∃ k : Nat, y = .int .i64 k ∧ k ≤ l.length ∧ Hid (x ∉ l.take k) ∧ wr = w) (fun y _ => l.length - (intOf y).toNat)
  case atStart => exact ⟨0, rfl, Nat.zero_le _, by show x ∉ _; simp, rfl⟩
  case round =>
    obtain ⟨k, rfl, hk, HN, rfl⟩ := hrel
    by_cases hlt : k < l.length
    · have hki : (k : Int) < (l.length : Int) := by omega
      obtain ⟨y, hy⟩ : ∃ y, l[k]? = some y := ⟨_, List.getElem?_eq_getElem hlt⟩
      obtain ⟨b, off, cs, hq, hbn, hc1, hc2, _, hT, hcell⟩ := RowT.get HV.out hy
      subst hq
      cases hT
      have y0 := hcell 0 _ rfl
      simp only [Nat.mul_one, Nat.add_zero] at y0
      unfold maxLen at hc2
      have hk1 : (k : Int) + 1 ≤ 9223372036854775807 := by omega
      clear hcell
      by_cases hxy : y = x
      · subst hxy
        have hVt : true = V := by rw [← HVV.out]; exact ((mB_iff _ _).2 (List.mem_of_getElem? hy)).symm
        subst hVt
        clear hy
        go_wp2
        go_ret
        exact ⟨rfl, rfl⟩
      · have HN1 : Hid (x ∉ l.take (k + 1)) := by
          show x ∉ _
          obtain ⟨hk', rfl⟩ := List.getElem?_eq_some_iff.1 hy
          rw [List.take_succ_eq_append_getElem hk', List.mem_append, List.mem_singleton]
          rintro (h | h)
          · exact HN.out h
          · exact hxy h.symm
        have hxx := beq_false hxy
        clear hy hxy
        go_wp2
        go_roundw
        case rel => exact ⟨k + 1, by go_num, by omega, HN1, trivial⟩
        case measure => simp [intOf]; omega
    · have hki : ¬ (k : Int) < (l.length : Int) := by omega
      have hVf : false = V := by
        rw [← HVV.out]
        have := HN.out
        rw [List.take_of_length_le (by omega)] at this
        cases h : mB x l with
        | false => rfl
        | true => exact absurd ((mB_iff _ _).1 h) this
      subst hVf
      go_wp2
      go_ret
      exact ⟨rfl, rfl⟩

set_option maxRecDepth 100000 in
set_option maxHeartbeats 1000000 in
theorem bucketed_any (d : Nat) (s : Sel) (pv : Value) (n : Nn) (nv : Value) (w : World) (hP : PartsR d w.heap.size w pv s) (hn : NodeAt n w nv) :
    Calls Tryz.prog 23 #[.agg #[pv], nv] w fun e w' => e = .returned (.bool (bucV n s)) ∧ Below w.heap.size w w' := by
  obtain ⟨q, cap, rfl⟩ := RowT.len hP
  obtain ⟨par, cv, av, rfl, hcv, pa, ma, ca, rfl⟩ := hn
  obtain ⟨qc, cc, rfl⟩ := RowT.len hcv
  obtain ⟨w1, hw1⟩ : ∃ w1, w.alloc (.cells #[.slice q s.length cap] 54) = w1 := ⟨_, rfl⟩
  have b1 : Below w.heap.size w w1 := by rw [← hw1]; exact (Below.refl _ _).alloc (Nat.le_refl _) _
  have k1 : Blk w1 w.heap.size 54 [.slice q s.length cap] := by rw [← hw1]; exact Blk.new w 54 _
  have s1 : w1.heap.size = w.heap.size + 1 := by rw [← hw1]; exact World.size_alloc _ _
  obtain ⟨w2, hw2⟩ : ∃ w2, w1.alloc (.cells #[.int .i64 par, .string n.tag, .string n.id, .slice qc n.cls.length cc, .slice pa ma ca] 26) = w2 := ⟨_, rfl⟩
  have b2 : Below w1.heap.size w1 w2 := by rw [← hw2]; exact (Below.refl _ _).alloc (Nat.le_refl _) _
  have k2 : Blk w2 (w.heap.size + 1) 26 [.int .i64 par, .string n.tag, .string n.id, .slice qc n.cls.length cc, .slice pa ma ca] := by rw [← hw2, ← s1]; exact Blk.new w1 26 _
  have B2 := below_next b1 b2
  have k1' := k1.below b2 k1.lt
  have c0 := (blk1 k1').1
  have HV : ∃ V, bucV n s = V := ⟨_, rfl⟩
  obtain ⟨V, hV⟩ := HV
  rw [hV]
  by_cases hs0 : s.length = 0
  · obtain rfl : s = [] := List.eq_nil_of_length_eq_zero hs0
    obtain rfl : false = V := hV
    subst hw2
    subst hw1
    clear hP hcv k1 k2
    go_enter Tryz.func23, Tryz.ntmps23
    go_wp2
    go_ret
    exact ⟨rfl, B2⟩
  · obtain ⟨k, hk⟩ : ∃ k, s.length = k + 1 := ⟨s.length - 1, by omega⟩
    obtain ⟨p, hp⟩ : ∃ p, s[k]? = some p := ⟨_, List.getElem?_eq_getElem (by omega)⟩
    have hsel : selB s = some (bktOf p.2) := by
      unfold selB
      rw [List.getLast?_eq_getElem?, hk, Nat.add_sub_cancel, hp]
      rfl
    obtain ⟨b, off, vi, vk, va, vp, hq, hbn, hc1, hc2, ⟨x0, x1, x2, x3, x4, x5⟩, r1, r2, r3, r4⟩ := PartsR.get (PartsR.below hP B2) hp
    subst hq
    obtain ⟨q1, cp1, rfl⟩ := r1.len
    obtain ⟨q2, cp2, rfl⟩ := r2.len
    obtain ⟨q3, cp3, rfl⟩ := r3.len
    obtain ⟨q4, cp4, rfl⟩ := r4.len
    have i0 : ¬ ((s.length : Int) = 0) := by omega
    have i1 : IntKind.i64.wrap ((s.length : Int) - 1) = (k : Int) := by rw [IntKind.wrap_i64]; unfold maxLen at hc2; omega
    have i2 : (k : Int) < (s.length : Int) := by omega
    unfold maxLen at hc2
    obtain ⟨w3, hw3⟩ : ∃ w3, w2.alloc (.cells #[.string p.2.tag, .slice q1 p.2.ids.length cp1, .slice q2 p.2.classes.length cp2, .slice q3 p.2.attrs.length cp3, .slice q4 p.2.pss.length cp4] 86) = w3 := ⟨_, rfl⟩
    have b3 : Below w2.heap.size w2 w3 := by rw [← hw3]; exact (Below.refl _ _).alloc (Nat.le_refl _) _
    have k3 : Blk w3 w2.heap.size 86 [.string p.2.tag, .slice q1 p.2.ids.length cp1, .slice q2 p.2.classes.length cp2, .slice q3 p.2.attrs.length cp3, .slice q4 p.2.pss.length cp4] := by rw [← hw3]; exact Blk.new w2 86 _
    have B3 := below_next B2 b3
    have k23 := k2.below b3 k2.lt
    have ws : w.heap.size ≤ w2.heap.size := B2.size
    have e1 := r1.below (b3.mono ws) (T' := StrC) (fun _ _ h => h)
    have e2 := r2.below (b3.mono ws) (T' := StrC) (fun _ _ h => h)
    have hcv3 := (hcv.below B3 (T' := StrC) (fun _ _ h => h)).mono B3.size (fun _ _ h => h)
    obtain ⟨⟨d0, d1, d2, d3, d4⟩, _⟩ := blk5 k3
    obtain ⟨⟨n0, n1, n2, n3, n4⟩, _⟩ := blk5 k23
    have HS : Hid (selB s = some (bktOf p.2)) := hsel
    have HVV : Hid (bucV n s = V) := hV
    clear hP hcv k1 k1' k2 k3 k23 r1 r2 r3 r4 hsel hV hk hp b1 b2 b3
    obtain ⟨N, hN⟩ : ∃ N, s.length = N := ⟨_, rfl⟩
    rw [hN] at c0 i0 i1 i2 hc1 hw1
    clear hs0
    have HN : Hid (s.length = N) := hN
    go_enter Tryz.func23, Tryz.ntmps23
    rw [hN]
    clear hN
    go_upto_region 4 with fail
    clear x0 x1 x2 x3 x4 x5 c0 hw1 hw2 hw3 i0 i1 i2
    cases hi : p.2.ids with
    | cons x l =>
      obtain ⟨g, go, cs, hq, _, hcap, hm, _, hT, hcell⟩ := RowT.get e1 (k := 0) (x := x) (by rw [hi]; rfl)
      subst hq
      cases hT
      have y0 := hcell 0 _ rfl
      simp only [Nat.zero_mul, Nat.add_zero] at y0
      have hN1 : (0 : Int) < (p.2.ids.length : Int) := by rw [hi]; simp
      unfold maxLen at hm
      have hb := buc_id (n := n) HS.out hi
      rw [HVV.out] at hb
      have HB : Hid (V = (decide (n.id ≠ ⟨#[]⟩) && decide (x = n.id))) := hb
      clear hcell e1 e2 hb
      generalize p.2.ids.length = NI at *
      go_upto_region 5 with fail
      clear hi
      by_cases hid : n.id = ⟨#[]⟩
      · obtain rfl : V = false := by rw [HB.out, hid]; simp
        have hem : n.id.toList.isEmpty = true := by rw [eqlEmpty]; exact decide_eq_true hid
        go_quiet (fail)
        go_wp2
        go_ret
        exact ⟨rfl, below_drewN' B3 _⟩
      · have hem : n.id.toList.isEmpty = false := by rw [eqlEmpty]; exact decide_eq_false hid
        by_cases hx : x = n.id
        · obtain rfl : V = true := by rw [HB.out]; simp [hid, hx]
          have hxx : (x.toList == n.id.toList) = true := by rw [hx]; simp
          clear hx HB hid
          go_quiet (fail)
          go_wp2
          go_ret
          exact ⟨rfl, below_drewN' B3 _⟩
        · obtain rfl : V = false := by rw [HB.out]; simp [hx]
          have hxx := beq_false hx
          go_quiet (fail)
          go_wp2
          go_ret
          exact ⟨rfl, below_drewN' B3 _⟩
    | nil =>
      rw [hi] at d1
      cases hkc : p.2.classes with
      | cons x l =>
        obtain ⟨g, go, cs, hq, _, hcap, hm, _, hT, hcell⟩ := RowT.get e2 (k := 0) (x := x) (by rw [hkc]; rfl)
        subst hq
        cases hT
        have y0 := hcell 0 _ rfl
        simp only [Nat.zero_mul, Nat.add_zero] at y0
        have hN1 : (0 : Int) < (p.2.classes.length : Int) := by rw [hkc]; simp
        unfold maxLen at hm
        have hb := buc_class (n := n) HS.out hi hkc
        rw [HVV.out] at hb
        subst hb
        clear hcell e1 e2 hi hkc HVV
        generalize p.2.classes.length = NI at *
        have hha := has_any _ n.cls x w3.drew (RowT.mono (RowT.below hcv3 (below_drew (Below.refl _ _)) (fun _ _ h => h)) (Nat.le_refl _) (fun _ _ h => h))
        go_upto_region 7 with fail
        have q0 : Below w3.heap.size w3 w3.drew := below_drew (Below.refl _ _)
        have HeldS : w3.drew.cell? ⟨w.heap.size + 1, 3, none⟩ = some (.slice qc n.cls.length cc) ∧ w3.drew.cell? ⟨w2.heap.size, 2, none⟩ = some (.slice (some ⟨g, go, none⟩) NI cp2) ∧ w3.drew.cell? ⟨g, go, none⟩ = some (.string x) := ⟨n3, d2, y0⟩
        refine Rg.wpD_begin [0, 1, 2, 3, 4, 5] (fun X => X.cell? ⟨w.heap.size + 1, 3, none⟩ = some (.slice qc n.cls.length cc) ∧ X.cell? ⟨w2.heap.size, 2, none⟩ = some (.slice (some ⟨g, go, none⟩) NI cp2) ∧ X.cell? ⟨g, go, none⟩ = some (.string x)) (by kernel_rfl) ?_
        refine Rg.wpD_load 0 (v := ?_) (by simp only [List.getElem?_toArray, List.getElem?_cons_zero]; rfl) (by kernel_rfl) (by kernel_rfl) (by intro _ _ _ h; exact h) HeldS (by rfl) (fun wz hz => ?_) ?_
        rotate_left
        · first | (go_simp; done) | (go_simp; with_reducible rfl)
        simp only [Act.put, List.setIfInBounds_toArray, List.set_cons_succ, List.set_cons_zero]
        refine Rg.wpD_load 1 (v := ?_) (by simp only [List.getElem?_toArray, List.getElem?_cons_succ, List.getElem?_cons_zero]; rfl) (by kernel_rfl) (by kernel_rfl) (by intro _ _ _ h; exact h) HeldS (by rfl) (fun wz hz => ?_) ?_
        rotate_left
        · first | (go_simp; done) | (go_simp; with_reducible rfl)
        simp only [Act.put, List.setIfInBounds_toArray, List.set_cons_succ, List.set_cons_zero]
        refine Rg.wpD_load 2 (v := ?_) (by simp only [List.getElem?_toArray, List.getElem?_cons_succ, List.getElem?_cons_zero]; rfl) (by kernel_rfl) (by kernel_rfl) (by intro _ _ _ h; exact h) HeldS (by rfl) (fun wz hz => ?_) ?_
        rotate_left
        · first | (go_simp; done) | (go_simp; with_reducible rfl)
        simp only [Act.put, List.setIfInBounds_toArray, List.set_cons_succ, List.set_cons_zero]
        refine Rg.wpD_load 3 (v := ?_) (by simp only [List.getElem?_toArray, List.getElem?_cons_succ, List.getElem?_cons_zero]; rfl) (by kernel_rfl) (by kernel_rfl) (by intro _ _ _ h; exact h) HeldS (by rfl) (fun wz hz => ?_) ?_
        rotate_left
        · first | (go_simp; done) | (go_simp; with_reducible rfl)
        simp only [Act.put, List.setIfInBounds_toArray, List.set_cons_succ, List.set_cons_zero]
        refine Rg.wpD_load 4 (v := ?_) (by simp only [List.getElem?_toArray, List.getElem?_cons_succ, List.getElem?_cons_zero]; rfl) (by kernel_rfl) (by kernel_rfl) (by intro _ _ _ h; exact h) HeldS (by rfl) (fun wz hz => ?_) ?_
        rotate_left
        · first | (go_simp; done) | (go_simp; with_reducible rfl)
        simp only [Act.put, List.setIfInBounds_toArray, List.set_cons_succ, List.set_cons_zero]
        refine Rg.wpD_load 5 (v := ?_) (by simp only [List.getElem?_toArray, List.getElem?_cons_succ, List.getElem?_cons_zero]; rfl) (by kernel_rfl) (by kernel_rfl) (by intro _ _ _ h; exact h) HeldS (by rfl) (fun wz hz => ?_) ?_
        rotate_left
        · first | (go_simp; done) | (go_simp; with_reducible rfl)
        simp only [Act.put, List.setIfInBounds_toArray, List.set_cons_succ, List.set_cons_zero]
        refine Rg.wpD_do 6 (by kernel_rfl) (by simp only [List.getElem?_toArray, List.getElem?_cons_succ, List.getElem?_cons_zero]; rfl) (fun K hK => ?_)
        go_simp
        go_at_call 39
        refine Calls.mono hha ?_
        clear hha
        rintro e X ⟨rfl, rfl⟩
        refine hK _ _ (fun h => absurd h (by decide)) ?_
        clear hK K
        refine Rg.wpD_pure 7 (v := ?_) (by simp only [List.getElem?_toArray, List.getElem?_cons_succ, List.getElem?_cons_zero]; rfl) (by kernel_rfl) (by kernel_rfl) (by intro _ _ _ h; exact h) (by rfl) (fun wz => ?_) ?_
        rotate_left
        · first | (go_simp; done) | (go_simp; with_reducible rfl)
        simp only [Act.put, List.setIfInBounds_toArray, List.set_cons_succ, List.set_cons_zero]
        refine Rg.wpD_done (by kernel_rfl) ?_
        go_wp2
        go_ret
        exact ⟨rfl, below_next B3 q0⟩
      | nil =>
        rw [hkc] at d2
        clear e1 e2
        by_cases ht : p.2.tag = ⟨#[]⟩
        · have hb := buc_all (n := n) HS.out hi hkc ht
          rw [HVV.out] at hb
          subst hb
          rw [ht] at d0
          clear hi hkc ht HVV
          go_wp2
          go_ret
          exact ⟨rfl, B3⟩
        · have hb := buc_tag (n := n) HS.out hi hkc ht
          rw [HVV.out] at hb
          have hne := bytes_ne ht
          have hne2 : p.2.tag.toList.isEmpty = false := by rw [eqlEmpty]; exact decide_eq_false ht
          have HB : Hid (V = decide (p.2.tag = n.tag)) := hb
          clear hi hkc ht HVV hb
          by_cases hx : p.2.tag = n.tag
          · obtain rfl : V = true := by rw [HB.out]; exact decide_eq_true hx
            have hxx : (p.2.tag.toList == n.tag.toList) = true := by rw [hx]; simp
            clear hx HB
            go_wp2
            go_ret
            exact ⟨rfl, B3⟩
          · obtain rfl : V = false := by rw [HB.out]; exact decide_eq_false hx
            have hxx := beq_false hx
            clear hx HB
            go_wp2
            go_ret
            exact ⟨rfl, B3⟩

/-! ### For -/
set_option maxRecDepth 100000 in
set_option maxHeartbeats 1000000 in
theorem refFor_any (d : Nat) (v : Value) (l : List Rl) (n : Nn) (nv : Value) (w : World) (hv : RulesR (d + 1) w.heap.size w v l) (hl : l.length ≤ 1000) (hn : NodeAt n w nv) :
    Calls Tryz.prog 10 #[v, nv] w fun e w' => ∃ x, e = .returned x ∧ w'.ownsRow w.heap.size 3 1 x (forV l (bktsV n)).length (nats (forV l (bktsV n))) ∧ Below w.heap.size w w' := by
  obtain ⟨j0, hj, hy0, hy1, hy2⟩ := info_of infoI
  obtain ⟨par, cv, av, rfl, hcv, pa, ma, ca, rfl⟩ := hn
  obtain ⟨qc, cc, rfl⟩ := RowT.len hcv
  obtain ⟨q, cap, rfl⟩ := RowT.len hv
  obtain ⟨w1, hw1⟩ : ∃ w1, w.alloc (.cells #[.int .i64 par, .string n.tag, .string n.id, .slice qc n.cls.length cc, .slice pa ma ca] 26) = w1 := ⟨_, rfl⟩
  have b1 : Below w.heap.size w w1 := by rw [← hw1]; exact (Below.refl _ _).alloc (Nat.le_refl _) _
  have k1 : Blk w1 w.heap.size 26 [.int .i64 par, .string n.tag, .string n.id, .slice qc n.cls.length cc, .slice pa ma ca] := by rw [← hw1]; exact Blk.new w 26 _
  have s1 : w.heap.size < w1.heap.size := k1.lt
  have HV : Hid (RulesR (d + 1) w.heap.size w (.slice q l.length cap) l) := hv
  have HC : Hid (RowT 1 StrC w.heap.size w (.slice qc n.cls.length cc) n.cls) := hcv
  have HK : Hid (Blk w1 w.heap.size 26 [.int .i64 par, .string n.tag, .string n.id, .slice qc n.cls.length cc, .slice pa ma ca]) := k1
  clear hv hcv k1
  go_enter Tryz.func10, Tryz.ntmps10
  go_wp2
  go_loopw [5, 6] (fun x5 x6 wr => ∃ (k : Nat) (F : List Nat), x6 = .int .i64 k ∧ k ≤ l.length ∧ wr.ownsRow w1.heap.size 3 1 x5 F.length (nats F) ∧ Hid (forV (l.take k) (bktsV n) = F) ∧ F.length ≤ k ∧ Below w1.heap.size w1 wr) (fun _ x6 _ => l.length - (intOf x6).toNat)
  case atStart => exact ⟨0, [], rfl, Nat.zero_le _, World.ownsRow_nil _ _ _ _, rfl, Nat.le_refl _, Below.refl _ _⟩
  case round =>
    obtain ⟨k, F, rfl, hk, hr, HF, hFl, hb⟩ := hrel
    obtain ⟨q5, c5, rfl⟩ := owns_form hr
    have hbw := b1.trans (hb.mono b1.size)
    by_cases hlt : k < l.length
    · have hki : (k : Int) < (l.length : Int) := by omega
      obtain ⟨r, hrr⟩ : ∃ r, l[k]? = some r := ⟨_, List.getElem?_eq_getElem hlt⟩
      obtain ⟨b, off, cs, hq, hbn, hc1, hc2, _, ⟨x, px, mx, kx, rfl, hx⟩, hcell⟩ := RowT.get HV.out hrr
      subst hq
      unfold maxLen at hc2
      have x0 : w.cell? ⟨b, off + k * 2, none⟩ = some x := by have := hcell 0 _ rfl; simpa using this
      obtain ⟨pr, cr, rfl⟩ := RowT.len hx
      have hrs := hx.short
      unfold maxLen at hrs
      have HX : Hid (SelsR (d + 1) w.heap.size w (.slice pr r.length cr) r) := hx
      have HR : Hid (w.cell? ⟨b, off + k * 2, none⟩ = some (.slice pr r.length cr)) := x0
      have hk1 : (k : Int) + 1 ≤ 9223372036854775807 := by omega
      have HNX : Hid (forV (l.take (k + 1)) (bktsV n) = if r.any (bucV n) then F ++ [k] else F) := by
        show _ = _
        obtain ⟨hk', rfl⟩ := List.getElem?_eq_some_iff.1 hrr
        rw [List.take_succ_eq_append_getElem hk']
        have h1 : forV (l.take k ++ [l[k]]) (bktsV n) = forV (l.take k) (bktsV n) ++ hitsAt (bktsV n) k [l[k]] := by
          have : ∀ (a : List Rl) (i : Nat), hitsAt (bktsV n) i (a ++ [l[k]]) = hitsAt (bktsV n) i a ++ hitsAt (bktsV n) (i + a.length) [l[k]] := fun a => by
            induction a with
            | nil => intro i; rfl
            | cons z a ih =>
              intro i
              have := ih (i + 1)
              rw [show i + 1 + a.length = i + (z :: a).length by rw [List.length_cons]; omega] at this
              show (if hitB (bktsV n) z then i :: hitsAt (bktsV n) (i + 1) (a ++ [l[k]]) else hitsAt (bktsV n) (i + 1) (a ++ [l[k]])) = (if hitB (bktsV n) z then i :: hitsAt (bktsV n) (i + 1) a else hitsAt (bktsV n) (i + 1) a) ++ _
              rw [this]
              split <;> rfl
          have h2 := this (l.take k) 0
          rw [Nat.zero_add, List.length_take_of_le (by omega)] at h2
          exact h2
        rw [h1, HF.out]
        show F ++ (if hitB (bktsV n) l[k] then [k] else []) = _
        rw [hit_buc]
        split <;> simp
      clear hcell hx x0 hrr
      obtain ⟨wo, hwo⟩ : ∃ wo, wo = wr := ⟨_, rfl⟩
      subst hwo
      go_wp2
      go_loopw [7, 8] (fun x7 x8 wr => ∃ (m : Nat) (t : Bool), x7 = .bool t ∧ x8 = .int .i64 m ∧ m ≤ r.length ∧ Hid ((r.take m).any (bucV n) = t) ∧ Below wo.heap.size wo wr) (fun _ x8 _ => r.length - (intOf x8).toNat)
      case atStart => exact ⟨0, false, rfl, rfl, Nat.zero_le _, rfl, Below.refl _ _⟩
      case round =>
        obtain ⟨m, t, rfl, rfl, hm, HT, hb2⟩ := hrel
        have hbx := hbw.trans (hb2.mono hbw.size)
        have y0 := (hbx.cell (p := ⟨b, off + k * 2, none⟩) hbn).trans HR.out
        have fin : Hid (∀ t2 : Bool, r.any (bucV n) = t2 → forV (l.take (k + 1)) (bktsV n) = if t2 then F ++ [k] else F) := fun t2 h => by rw [HNX.out, h]
        have done : (r.any (bucV n) = t) → Hid (r.any (bucV n) = t) := fun h => h
        by_cases hml : m < r.length ∧ t = false
        · obtain ⟨hml, rfl⟩ := hml
          have hmi : (m : Int) < (r.length : Int) := by omega
          obtain ⟨s, hs⟩ : ∃ s, r[m]? = some s := ⟨_, List.getElem?_eq_getElem hml⟩
          obtain ⟨b2, off2, pv, hq2, hbn2, hd1, hd2, hpv, u0⟩ := SelsR.get HX.out hs
          subst hq2
          unfold maxLen at hd2
          obtain ⟨qp, cp, rfl⟩ := RowT.len hpv
          have u1 := (hbx.cell (p := ⟨b2, off2 + m, none⟩) hbn2).trans u0
          have q0 : Below wr.heap.size wr wr.drew := below_drew (Below.refl _ _)
          have hb0 := below_next hbx q0
          have k2 := HK.out.below (hb.trans ((hb2.trans (q0.mono hb2.size)).mono hb.size)) HK.out.lt
          obtain ⟨⟨n0, n1, n2, n3, n4⟩, _⟩ := blk5 k2
          have hbu := bucketed_any d s (.slice qp s.length cp) n _ wr.drew ((PartsR.below hpv hb0).mono hb0.size) ⟨par, _, _, rfl, (HC.out.below hb0 (T' := StrC) (fun _ _ h => h)).mono hb0.size (fun _ _ h => h), pa, ma, ca, rfl⟩
          have HT1 : Hid ((r.take (m + 1)).any (bucV n) = bucV n s) := by
            show _ = _
            obtain ⟨hk', rfl⟩ := List.getElem?_eq_some_iff.1 hs
            rw [List.take_succ_eq_append_getElem hk', List.any_append, HT.out]
            simp
          have hm1 : (m : Int) + 1 ≤ 9223372036854775807 := by omega
          have HeldS : wr.drew.cell? ⟨b, off + k * 2, none⟩ = some (.slice (some ⟨b2, off2, none⟩) r.length cr) ∧ wr.drew.cell? ⟨b2, off2 + m, none⟩ = some (.slice qp s.length cp) ∧ wr.drew.cell? ⟨w.heap.size, 0, none⟩ = some (.int .i64 par) ∧ wr.drew.cell? ⟨w.heap.size, 1, none⟩ = some (.string n.tag) ∧ wr.drew.cell? ⟨w.heap.size, 2, none⟩ = some (.string n.id) ∧ wr.drew.cell? ⟨w.heap.size, 3, none⟩ = some (.slice qc n.cls.length cc) ∧ wr.drew.cell? ⟨w.heap.size, 4, none⟩ = some (.slice pa ma ca) := ⟨y0, u1, n0, n1, n2, n3, n4⟩
          clear hs hpv u0 k2 n0 n1 n2 n3 n4 fin done
          go_upto_region 9 with fail
          refine Rg.wpD_begin [0, 1, 2, 3, 4, 5, 6, 7, 8] (fun X => X.cell? ⟨b, off + k * 2, none⟩ = some (.slice (some ⟨b2, off2, none⟩) r.length cr) ∧ X.cell? ⟨b2, off2 + m, none⟩ = some (.slice qp s.length cp) ∧ X.cell? ⟨w.heap.size, 0, none⟩ = some (.int .i64 par) ∧ X.cell? ⟨w.heap.size, 1, none⟩ = some (.string n.tag) ∧ X.cell? ⟨w.heap.size, 2, none⟩ = some (.string n.id) ∧ X.cell? ⟨w.heap.size, 3, none⟩ = some (.slice qc n.cls.length cc) ∧ X.cell? ⟨w.heap.size, 4, none⟩ = some (.slice pa ma ca)) (by kernel_rfl) ?_
          refine Rg.wpD_load 0 (v := ?_) (by simp only [List.getElem?_toArray, List.getElem?_cons_zero]; rfl) (by kernel_rfl) (by kernel_rfl) (by intro _ _ _ h; exact h) HeldS (by rfl) (fun wz hz => ?_) ?_
          rotate_left
          · first | (go_simp; done) | (go_simp; with_reducible rfl)
          simp only [Act.put, List.setIfInBounds_toArray, List.set_cons_succ, List.set_cons_zero]
          refine Rg.wpD_load 1 (v := ?_) (by simp only [List.getElem?_toArray, List.getElem?_cons_succ, List.getElem?_cons_zero]; rfl) (by kernel_rfl) (by kernel_rfl) (by intro _ _ _ h; exact h) HeldS (by rfl) (fun wz hz => ?_) ?_
          rotate_left
          · first | (go_simp; done) | (go_simp; with_reducible rfl)
          simp only [Act.put, List.setIfInBounds_toArray, List.set_cons_succ, List.set_cons_zero]
          refine Rg.wpD_load 2 (v := ?_) (by simp only [List.getElem?_toArray, List.getElem?_cons_succ, List.getElem?_cons_zero]; rfl) (by kernel_rfl) (by kernel_rfl) (by intro _ _ _ h; exact h) HeldS (by rfl) (fun wz hz => ?_) ?_
          rotate_left
          · first | (go_simp; done) | (go_simp; with_reducible rfl)
          simp only [Act.put, List.setIfInBounds_toArray, List.set_cons_succ, List.set_cons_zero]
          refine Rg.wpD_load 3 (v := ?_) (by simp only [List.getElem?_toArray, List.getElem?_cons_succ, List.getElem?_cons_zero]; rfl) (by kernel_rfl) (by kernel_rfl) (by intro _ _ _ h; exact h) HeldS (by rfl) (fun wz hz => ?_) ?_
          rotate_left
          · first | (go_simp; done) | (go_simp; with_reducible rfl)
          simp only [Act.put, List.setIfInBounds_toArray, List.set_cons_succ, List.set_cons_zero]
          refine Rg.wpD_load 4 (v := ?_) (by simp only [List.getElem?_toArray, List.getElem?_cons_succ, List.getElem?_cons_zero]; rfl) (by kernel_rfl) (by kernel_rfl) (by intro _ _ _ h; exact h) HeldS (by rfl) (fun wz hz => ?_) ?_
          rotate_left
          · first | (go_simp; done) | (go_simp; with_reducible rfl)
          simp only [Act.put, List.setIfInBounds_toArray, List.set_cons_succ, List.set_cons_zero]
          refine Rg.wpD_load 5 (v := ?_) (by simp only [List.getElem?_toArray, List.getElem?_cons_succ, List.getElem?_cons_zero]; rfl) (by kernel_rfl) (by kernel_rfl) (by intro _ _ _ h; exact h) HeldS (by rfl) (fun wz hz => ?_) ?_
          rotate_left
          · first | (go_simp; done) | (go_simp; with_reducible rfl)
          simp only [Act.put, List.setIfInBounds_toArray, List.set_cons_succ, List.set_cons_zero]
          refine Rg.wpD_load 6 (v := ?_) (by simp only [List.getElem?_toArray, List.getElem?_cons_succ, List.getElem?_cons_zero]; rfl) (by kernel_rfl) (by kernel_rfl) (by intro _ _ _ h; exact h) HeldS (by rfl) (fun wz hz => ?_) ?_
          rotate_left
          · first | (go_simp; done) | (go_simp; with_reducible rfl)
          simp only [Act.put, List.setIfInBounds_toArray, List.set_cons_succ, List.set_cons_zero]
          refine Rg.wpD_load 7 (v := ?_) (by simp only [List.getElem?_toArray, List.getElem?_cons_succ, List.getElem?_cons_zero]; rfl) (by kernel_rfl) (by kernel_rfl) (by intro _ _ _ h; exact h) HeldS (by rfl) (fun wz hz => ?_) ?_
          rotate_left
          · first | (go_simp; done) | (go_simp; with_reducible rfl)
          simp only [Act.put, List.setIfInBounds_toArray, List.set_cons_succ, List.set_cons_zero]
          refine Rg.wpD_load 8 (v := ?_) (by simp only [List.getElem?_toArray, List.getElem?_cons_succ, List.getElem?_cons_zero]; rfl) (by kernel_rfl) (by kernel_rfl) (by intro _ _ _ h; exact h) HeldS (by rfl) (fun wz hz => ?_) ?_
          rotate_left
          · first | (go_simp; done) | (go_simp; with_reducible rfl)
          simp only [Act.put, List.setIfInBounds_toArray, List.set_cons_succ, List.set_cons_zero]
          refine Rg.wpD_do 9 (by kernel_rfl) (by simp only [List.getElem?_toArray, List.getElem?_cons_succ, List.getElem?_cons_zero]; rfl) (fun K hK => ?_)
          go_simp
          go_at_call 23
          refine Calls.mono hbu ?_
          clear hbu
          rintro e X ⟨rfl, bX⟩
          refine hK _ _ (fun h => absurd h (by decide)) ?_
          clear hK K HeldS
          refine Rg.wpD_pure 10 (v := ?_) (by simp only [List.getElem?_toArray, List.getElem?_cons_succ, List.getElem?_cons_zero]; rfl) (by kernel_rfl) (by kernel_rfl) (by intro _ _ _ h; exact h) (by rfl) (fun wz => ?_) ?_
          rotate_left
          · first | (go_simp; done) | (go_simp; with_reducible rfl)
          simp only [Act.put, List.setIfInBounds_toArray, List.set_cons_succ, List.set_cons_zero]
          refine Rg.wpD_done (by kernel_rfl) ?_
          have hB4 := below_next hb2 (below_next q0 bX)
          clear y0 u1 q0 bX
          go_wp2
          go_roundw
          case rel => exact ⟨m + 1, _, rfl, by go_num, by omega, HT1, hB4⟩
          case measure => simp [intOf]; omega
        · have HAN : Hid (r.any (bucV n) = t) := by
            show _ = _
            by_cases hmr : m < r.length
            · have ht : t = true := by
                cases t with
                | true => rfl
                | false => exact absurd ⟨hmr, rfl⟩ hml
              subst ht
              have := HT.out
              rw [List.any_eq_true] at this ⊢
              obtain ⟨z, hz, h2⟩ := this
              exact ⟨z, List.mem_of_mem_take hz, h2⟩
            · have := HT.out
              rwa [List.take_of_length_le (by omega)] at this
          have hr2 := owns_same hr (W' := wr) (fun g hg => hb2.block g (owns_lt hr hg).2)
          have hB2 := hb.trans (hb2.mono hb.size)
          have hszw := hB2.size
          clear fin done
          by_cases hmr : (m : Int) < (r.length : Int)
          · have ht : true = t := by
              cases t with
              | true => rfl
              | false => exact absurd ⟨by omega, rfl⟩ hml
            subst ht
            have HNX2 : Hid (forV (l.take (k + 1)) (bktsV n) = F ++ [k]) := by
              show _ = _
              rw [HNX.out, HAN.out]; rfl
            clear hml HNX
            obtain ⟨NF, hNF⟩ : ∃ NF, F.length = NF := ⟨_, rfl⟩
            have HNF : Hid (F.length = NF) := hNF
            rw [hNF] at hr2 hFl ⊢
            clear hNF
            go_wp2_with (at_builtin; refine wpList_append_own_at _ rfl _ _ 32 rfl w1.heap.size 3 j0 (.int .i64 0) 1 8 Tryz.underlying32 hj hy0 hy1 hy2 rfl (by decide) (.slice q5 NF c5) NF _ rfl (hr2.alloc _) ⟨wr.heap.size, 0, none⟩ 1 1 [.int .i64 (k : Int)] rfl rfl (cell_one_new _ _ _) (by simp [Value.oneCell']) (by unfold maxLen; omega) (by omega) (by simp; omega) ?_; intro v' w3 hown3 hgrow3 hnil3 hat3)
            go_roundw
            case rel =>
              have ha := (Below.refl wr.heap.size wr).alloc (Nat.le_refl _) (.cells #[.int .i64 (k : Int)] 3)
              refine ⟨k + 1, F ++ [k], by go_num, by omega, ?_, HNX2.out, by rw [List.length_append, HNF.out]; simp; omega, ((below_next hB2 ha).grown hgrow3 (by simp; omega) (fun r e => (owns_lt hr2 e).1))⟩
              rw [← nats_app, List.length_append, List.length_singleton, HNF.out]
              exact hown3
            case measure => simp [intOf]; omega
          · cases t with
            | true =>
              have HNX2 : Hid (forV (l.take (k + 1)) (bktsV n) = F ++ [k]) := by
                show _ = _
                rw [HNX.out, HAN.out]; rfl
              clear hml HNX
              obtain ⟨NF, hNF⟩ : ∃ NF, F.length = NF := ⟨_, rfl⟩
              have HNF : Hid (F.length = NF) := hNF
              rw [hNF] at hr2 hFl ⊢
              clear hNF
              go_wp2_with (at_builtin; refine wpList_append_own_at _ rfl _ _ 32 rfl w1.heap.size 3 j0 (.int .i64 0) 1 8 Tryz.underlying32 hj hy0 hy1 hy2 rfl (by decide) (.slice q5 NF c5) NF _ rfl (hr2.alloc _) ⟨wr.heap.size, 0, none⟩ 1 1 [.int .i64 (k : Int)] rfl rfl (cell_one_new _ _ _) (by simp [Value.oneCell']) (by unfold maxLen; omega) (by omega) (by simp; omega) ?_; intro v' w3 hown3 hgrow3 hnil3 hat3)
              go_roundw
              case rel =>
                have ha := (Below.refl wr.heap.size wr).alloc (Nat.le_refl _) (.cells #[.int .i64 (k : Int)] 3)
                refine ⟨k + 1, F ++ [k], by go_num, by omega, ?_, HNX2.out, by rw [List.length_append, HNF.out]; simp; omega, ((below_next hB2 ha).grown hgrow3 (by simp; omega) (fun r e => (owns_lt hr2 e).1))⟩
                rw [← nats_app, List.length_append, List.length_singleton, HNF.out]
                exact hown3
              case measure => simp [intOf]; omega
            | false =>
              have HNX2 : Hid (forV (l.take (k + 1)) (bktsV n) = F) := by
                show _ = _
                rw [HNX.out, HAN.out]; rfl
              clear hml HNX
              go_wp2
              go_roundw
              case rel => exact ⟨k + 1, F, by go_num, by omega, hr2, HNX2.out, by omega, hB2⟩
              case measure => simp [intOf]; omega
    · have hki : ¬ (k : Int) < (l.length : Int) := by omega
      have hFF : forV l (bktsV n) = F := by
        have := HF.out
        rwa [List.take_of_length_le (by omega)] at this
      have FIN : Hid (wr.ownsRow w.heap.size 3 1 (.slice q5 F.length c5) (forV l (bktsV n)).length (nats (forV l (bktsV n)))) := by
        rw [hFF]
        refine ⟨hr.1, ?_⟩
        rcases hr.2 with h | ⟨g, cp, cur, h, hg, h'⟩
        · exact .inl h
        · exact .inr ⟨g, cp, cur, h, by omega, h'⟩
      clear hr hFF
      go_wp2
      go_ret
      exact ⟨_, rfl, FIN.out, hbw⟩

/-! ### Bucketed -/
set_option maxRecDepth 100000 in
set_option maxHeartbeats 1000000 in
theorem refBucketed_any (d : Nat) (v : Value) (l : List Rl) (w : World) (hv : RulesR (d + 1) w.heap.size w v l) (hl : l.length ≤ 1000) (hs : ∀ r ∈ l, r.length ≤ 100000) :
    Calls Tryz.prog 12 #[v] w fun e w' => e = .returned (.int .i64 (lenV l)) ∧ w' = w := by
  obtain ⟨q, cap, rfl⟩ := RowT.len hv
  have HV : Hid (RulesR (d + 1) w.heap.size w (.slice q l.length cap) l) := hv
  have HS : Hid (∀ r ∈ l, r.length ≤ 100000) := hs
  clear hv hs
  go_enter Tryz.func12, Tryz.ntmps12
  go_wp2
  go_loopw [3, 4] (fun x3 x4 wr => ∃ (k c : Nat), x3 = .int .i64 c ∧ x4 = .int .i64 k ∧ k ≤ l.length ∧ Hid (lenV (l.take k) = c) ∧ wr = w) (fun _ x4 _ => l.length - (intOf x4).toNat)
  case atStart => exact ⟨0, 0, rfl, rfl, Nat.zero_le _, rfl, rfl⟩
  case round =>
    obtain ⟨k, c, rfl, rfl, hk, HL, rfl⟩ := hrel
    by_cases hlt : k < l.length
    · have hki : (k : Int) < (l.length : Int) := by omega
      obtain ⟨r, hrr⟩ : ∃ r, l[k]? = some r := ⟨_, List.getElem?_eq_getElem hlt⟩
      obtain ⟨b, off, cs, hq, hbn, hc1, hc2, _, ⟨x, px, mx, kx, rfl, hx⟩, hcell⟩ := RowT.get HV.out hrr
      subst hq
      unfold maxLen at hc2
      have x0 : wr.cell? ⟨b, off + k * 2, none⟩ = some x := by have := hcell 0 _ rfl; simpa using this
      obtain ⟨pr, cr, rfl⟩ := RowT.len hx
      have hrl := HS.out r (List.mem_of_getElem? hrr)
      have HX : Hid (SelsR (d + 1) wr.heap.size wr (.slice pr r.length cr) r) := hx
      have HNX : Hid (lenV (l.take (k + 1)) = c + selsN r) := by
        show _ = _
        rw [lenV_snoc l hrr, HL.out]
      have hcl := lenV_le (l.take k) (fun z hz => HS.out z (List.mem_of_mem_take hz))
      rw [HL.out, List.length_take_of_le (by omega)] at hcl
      have hk1 : (k : Int) + 1 ≤ 9223372036854775807 := by omega
      clear hcell hx hrr HL
      obtain ⟨wo, hwo⟩ : ∃ wo, wo = wr := ⟨_, rfl⟩
      subst hwo
      go_wp2
      go_loopw [3, 5] (fun x3 x5 wr => ∃ (m e : Nat), x3 = .int .i64 e ∧ x5 = .int .i64 m ∧ m ≤ r.length ∧ Hid (c + selsN (r.take m) = e) ∧ e ≤ c + m ∧ wr = wo) (fun _ x5 _ => r.length - (intOf x5).toNat)
      case atStart => exact ⟨0, c, rfl, rfl, Nat.zero_le _, rfl, Nat.le_refl _, rfl⟩
      case round =>
        obtain ⟨m, e, rfl, rfl, hm, HE, hem, rfl⟩ := hrel
        by_cases hml : m < r.length
        · have hmi : (m : Int) < (r.length : Int) := by omega
          obtain ⟨s, hs⟩ : ∃ s, r[m]? = some s := ⟨_, List.getElem?_eq_getElem hml⟩
          obtain ⟨b2, off2, pv, hq2, hbn2, hd1, hd2, hpv, u0⟩ := SelsR.get HX.out hs
          subst hq2
          unfold maxLen at hd2
          obtain ⟨qp, cp, rfl⟩ := RowT.len hpv
          have hm1 : (m : Int) + 1 ≤ 9223372036854775807 := by omega
          have he1 : (e : Int) + 1 ≤ 9223372036854775807 := by omega
          have HE1 : Hid (c + selsN (r.take (m + 1)) = e + one1 s) := by
            show _ = _
            rw [selsN_snoc r hs, ← HE.out]; omega
          by_cases hs0 : s.length = 0
          · obtain rfl : s = [] := List.eq_nil_of_length_eq_zero hs0
            clear hs hpv
            go_wp2
            go_roundw
            case rel => exact ⟨m + 1, e, rfl, by go_num, by omega, HE1, by omega, trivial⟩
            case measure => simp [intOf]; omega
          · have hsp : (0 : Int) < (s.length : Int) := by omega
            have hon : one1 s = 1 := by
              unfold one1
              cases s with
              | nil => simp at hs0
              | cons a l => rfl
            rw [hon] at HE1
            have hsn : 0 < s.length := by omega
            have hsd : decide (0 < s.length) = true := decide_eq_true hsn
            obtain ⟨NS, hNS⟩ : ∃ NS, s.length = NS := ⟨_, rfl⟩
            rw [hNS] at u0 hsp hsn hsd
            clear hs hpv hs0 hNS hon
            go_wp2
            go_roundw
            case rel => exact ⟨m + 1, e + 1, by go_num, by go_num, by omega, HE1, by omega, trivial⟩
            case measure => simp [intOf]; omega
        · have hmi : ¬ (m : Int) < (r.length : Int) := by omega
          have HF : Hid (lenV (l.take (k + 1)) = e) := by
            show _ = _
            rw [HNX.out, ← HE.out, List.take_of_length_le (by omega)]
          clear HE HNX
          go_wp2
          go_roundw
          case rel => exact ⟨k + 1, e, rfl, by go_num, by omega, HF, trivial⟩
          case measure => simp [intOf]; omega
    · have hki : ¬ (k : Int) < (l.length : Int) := by omega
      have hcc : c = lenV l := by
        have := HL.out
        rw [List.take_of_length_le (by omega)] at this
        exact this.symm
      subst hcc
      clear HL
      go_wp2
      go_ret
      exact ⟨rfl, rfl⟩

end Go.Proofs.YtmahjhcinooihaaGreat.Bk
