/- The document's own buckets (tapestrierref9: has, bucketed, For, Bucketed), at every list of rules. -/
import Derived.Test.YtchfnnoabejlpabGreatBkAlive
namespace Go.Proofs.YtchfnnoabejlpabGreat.Bk
open Go.Proofs.YtchfnnoabejlpabGreat.Tre
open Go Go.RowKit Go.Shelf Sl Wg

/-! ### plain facts -/
def mB {α : Type} [DecidableEq α] (x : α) (l : List α) : Bool := l.any (fun y => decide (y = x))
theorem mB_iff {α : Type} [DecidableEq α] (x : α) (l : List α) : mB x l = true ↔ x ∈ l := by
  unfold mB
  rw [List.any_eq_true]
  constructor
  · rintro ⟨y, hy, e⟩
    rw [← of_decide_eq_true e]; exact hy
  · exact fun h => ⟨x, h, decide_eq_true rfl⟩
def bucV (n : Nn) (s : Sel) : Bool := match selB s with
  | some b => mB b (bktsV n)
  | none => false
theorem hit_buc (n : Nn) (r : Rl) : hitB (bktsV n) r = r.any (bucV n) := by
  rw [Bool.eq_iff_iff]
  unfold hitB inB
  simp only [List.any_eq_true, decide_eq_true_eq]
  constructor
  · rintro ⟨b, hb, s, hs, e⟩
    exact ⟨s, hs, by unfold bucV; rw [e]; exact (mB_iff _ _).2 hb⟩
  · rintro ⟨s, hs, h⟩
    unfold bucV at h
    cases e : selB s with
    | none => rw [e] at h; cases h
    | some b => rw [e] at h; exact ⟨b, (mB_iff _ _).1 h, s, hs, e⟩
theorem mem_bkts (n : Nn) (b : Bkt) : b ∈ bktsV n ↔ b = (0, ⟨#[]⟩) ∨ b = (1, n.tag) ∨ (n.id ≠ ⟨#[]⟩ ∧ b = (3, n.id)) ∨ ∃ c ∈ n.cls, b = (2, c) := by
  unfold bktsV
  rw [List.mem_append, List.mem_append, List.mem_map]
  constructor
  · rintro ((h | h) | ⟨c, hc, rfl⟩)
    · simp only [List.mem_cons, List.not_mem_nil, or_false] at h
      rcases h with h | h
      · exact .inl h
      · exact .inr (.inl h)
    · split at h
      · cases h
      · rename_i e; rw [List.mem_singleton] at h; exact .inr (.inr (.inl ⟨e, h⟩))
    · exact .inr (.inr (.inr ⟨c, hc, rfl⟩))
  · rintro (h | h | ⟨e, h⟩ | ⟨c, hc, h⟩)
    · exact .inl (.inl (by rw [h]; simp))
    · exact .inl (.inl (by rw [h]; simp))
    · exact .inl (.inr (by rw [if_neg e]; exact List.mem_singleton.2 h))
    · exact .inr ⟨c, hc, h.symm⟩
theorem buc_id {n : Nn} {s : Sel} {p : Pt} {x : ByteArray} {l : List ByteArray} (hs : selB s = some (bktOf p.2)) (h : p.2.ids = x :: l) : bucV n s = (decide (n.id ≠ ⟨#[]⟩) && decide (x = n.id)) := by
  unfold bucV
  rw [hs]
  have hb : bktOf p.2 = (3, x) := by unfold bktOf; rw [h]
  rw [hb, Bool.eq_iff_iff]
  simp only [decide_eq_true_eq, Bool.and_eq_true]
  rw [mB_iff, mem_bkts]
  constructor
  · rintro (h | h | ⟨e, h⟩ | ⟨c, _, h⟩)
    · cases congrArg Prod.fst h
    · cases congrArg Prod.fst h
    · exact ⟨e, congrArg Prod.snd h⟩
    · cases congrArg Prod.fst h
  · rintro ⟨e, h⟩
    exact .inr (.inr (.inl ⟨e, by rw [h]⟩))
theorem buc_class {n : Nn} {s : Sel} {p : Pt} {x : ByteArray} {l : List ByteArray} (hs : selB s = some (bktOf p.2)) (h0 : p.2.ids = []) (h : p.2.classes = x :: l) : bucV n s = mB x n.cls := by
  unfold bucV
  rw [hs]
  have hb : bktOf p.2 = (2, x) := by unfold bktOf; rw [h0, h]
  rw [hb, Bool.eq_iff_iff, mB_iff, mB_iff, mem_bkts]
  constructor
  · rintro (h | h | ⟨e, h⟩ | ⟨c, hc, h⟩)
    · cases congrArg Prod.fst h
    · cases congrArg Prod.fst h
    · cases congrArg Prod.fst h
    · have : x = c := congrArg Prod.snd h
      rw [this]; exact hc
  · exact fun h => .inr (.inr (.inr ⟨x, h, rfl⟩))
theorem buc_tag {n : Nn} {s : Sel} {p : Pt} (hs : selB s = some (bktOf p.2)) (h0 : p.2.ids = []) (h1 : p.2.classes = []) (ht : p.2.tag ≠ ⟨#[]⟩) : bucV n s = decide (p.2.tag = n.tag) := by
  unfold bucV
  rw [hs]
  have hb : bktOf p.2 = (1, p.2.tag) := by unfold bktOf; rw [h0, h1]; exact if_neg ht
  rw [hb, Bool.eq_iff_iff, mB_iff, mem_bkts, decide_eq_true_eq]
  constructor
  · rintro (h | h | ⟨e, h⟩ | ⟨c, _, h⟩)
    · cases congrArg Prod.fst h
    · exact congrArg Prod.snd h
    · cases congrArg Prod.fst h
    · cases congrArg Prod.fst h
  · exact fun h => .inr (.inl (by rw [h]))
theorem buc_all {n : Nn} {s : Sel} {p : Pt} (hs : selB s = some (bktOf p.2)) (h0 : p.2.ids = []) (h1 : p.2.classes = []) (ht : p.2.tag = ⟨#[]⟩) : bucV n s = true := by
  unfold bucV
  rw [hs]
  have hb : bktOf p.2 = (0, ⟨#[]⟩) := by unfold bktOf; rw [h0, h1]; exact if_pos ht
  rw [hb]
  exact (mB_iff _ _).2 ((mem_bkts n _).2 (.inl rfl))

theorem beq_false {a b : ByteArray} (h : a ≠ b) : (a.toList == b.toList) = false := by
  rw [ByteArray.toList_eq, ByteArray.toList_eq, beq_eq_false_iff_ne]
  intro e
  exact h (by
    cases a with
    | mk x =>
      cases b with
      | mk y => simp only [ByteArray.mk.injEq]; exact Array.toList_inj.1 e)
theorem eqlEmpty (s : ByteArray) : s.toList.isEmpty = decide (s = ⟨#[]⟩) := by
  by_cases h : s = ⟨#[]⟩
  · rw [h, ByteArray.toList_eq]; rfl
  · rw [decide_eq_false h]
    have := bytes_ne h
    cases e : s.toList with
    | nil => rw [e] at this; cases this
    | cons a l => rfl
set_option maxRecDepth 100000 in
set_option maxHeartbeats 1000000 in
theorem has_any (v : Value) (l : List ByteArray) (x : ByteArray) (w : World) (hv : RowT 1 StrC w.heap.size w v l) :
    Calls Tryz.prog 102 #[v, .string x] w fun e w' => e = .returned (.bool (mB x l)) ∧ w' = w := by
  obtain ⟨q, cap, rfl⟩ := RowT.len hv
  have HV : Hid (RowT 1 StrC w.heap.size w (.slice q l.length cap) l) := hv
  obtain ⟨V, hV⟩ : ∃ V, mB x l = V := ⟨_, rfl⟩
  rw [hV]
  have HVV : Hid (mB x l = V) := hV
  clear hv hV
  go_enter Tryz.func102, Tryz.ntmps102
  go_wp2
  go_loopw [5] (fun y wr => ∃ k : Nat, y = .int .i64 k ∧ k ≤ l.length ∧ Hid (x ∉ l.take k) ∧ wr = w) (fun y _ => l.length - (intOf y).toNat)
  case atStart => exact ⟨0, rfl, Nat.zero_le _, by show x ∉ _; simp, rfl⟩
  case round =>
    obtain ⟨k, rfl, hk, HN, rfl⟩ := hrel
    by_cases hlt : k < l.length
    · have hki : (k : Int) < (l.length : Int) := by omega
      obtain ⟨y, hy⟩ : ∃ y, l[k]? = some y := ⟨_, List.getElem?_eq_getElem hlt⟩
      obtain ⟨b, off, cs, hq, hbn, hc1, hc2, _, hT, hcell⟩ := RowT.get HV.out hy
      subst hq
      cases hT
      have y0 := hcell 0 _ rfl
      simp only [Nat.mul_one, Nat.add_zero] at y0
      unfold maxLen at hc2
      have hk1 : (k : Int) + 1 ≤ 9223372036854775807 := by omega
      clear hcell
      by_cases hxy : y = x
      · subst hxy
        have hVt : true = V := by rw [← HVV.out]; exact ((mB_iff _ _).2 (List.mem_of_getElem? hy)).symm
        subst hVt
        clear hy
        go_wp2
        go_ret
        exact ⟨rfl, rfl⟩
      · have HN1 : Hid (x ∉ l.take (k + 1)) := by
          show x ∉ _
          obtain ⟨hk', rfl⟩ := List.getElem?_eq_some_iff.1 hy
          rw [List.take_succ_eq_append_getElem hk', List.mem_append, List.mem_singleton]
          rintro (h | h)
          · exact HN.out h
          · exact hxy h.symm
        have hxx := beq_false hxy
        clear hy hxy
        go_wp2
        go_roundw
        case rel => exact ⟨k + 1, by go_num, by omega, HN1, trivial⟩
        case measure => simp [intOf]; omega
    · have hki : ¬ (k : Int) < (l.length : Int) := by omega
      have hVf : false = V := by
        rw [← HVV.out]
        have := HN.out
        rw [List.take_of_length_le (by omega)] at this
        cases h : mB x l with
        | false => rfl
        | true => exact absurd ((mB_iff _ _).1 h) this
      subst hVf
      go_wp2
      go_ret
      exact ⟨rfl, rfl⟩

/-! ### For -/
/-! ### Bucketed -/
end Go.Proofs.YtchfnnoabejlpabGreat.Bk
