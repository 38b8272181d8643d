/- Package bloom: the hashes of a node: hashes, hashesOf, Of at every node. -/
import Derived.Test.YtiaikkbmgnaikaaBhOf
namespace Go.Proofs.Ytiaikkbmgnaikaa.Bl
open Go Go.RowKit Go.Shelf Wg Sl

set_option maxRecDepth 100000 in
theorem hashes_any (tag : ByteArray) (pi : Option Addr) (mi ci : Nat) (pc : Option Addr) (mc cc : Nat) (w : World) :
    Calls Try.prog 35 #[.string tag, .slice pi mi ci, .slice pc mc cc] w fun e w' => e = .returned (.func (.func 43) #[] #[.pointer (some ⟨w.heap.size, 0, none⟩), .pointer (some ⟨w.heap.size + 1, 0, none⟩), .pointer (some ⟨w.heap.size + 2, 0, none⟩)]) ∧
      w' = ((w.alloc (.cells #[.string tag] 9)).alloc (.cells #[.slice pi mi ci] 22)).alloc (.cells #[.slice pc mc cc] 22) := by
  go_enter Try.func35, Try.ntmps35
  go_wp2
  go_ret
  exact ⟨rfl, rfl⟩
/-- The iterator that hashes hands back. -/
theorem hashes_of (tag : ByteArray) (vi vc : Value) (ids classes : List ByteArray) (w : World) (ht : tag.size ≤ 281474976710656) (hi : StrsR w vi ids) (hc : StrsR w vc classes) :
    Calls Try.prog 35 #[.string tag, vi, vc] w fun e w' => ∃ lb R, e = .returned (.func (.func 43) #[] lb) ∧ Below w.heap.size w w' ∧ (∀ r, R r → r < w'.heap.size ∧ (w.heap.size ≤ r ∨ (vi.ownBlock = some r ∧ ids ≠ []) ∨ (vc.ownBlock = some r ∧ classes ≠ []))) ∧ ∀ n, SeqD Fence.wide n Try.prog 43 lb (fun x : Nat => #[.int .i64 x]) R (namesV tag ids classes) w' := by
  obtain ⟨pi, ci, rfl⟩ := hi.len
  obtain ⟨pc, cc, rfl⟩ := hc.len
  refine Calls.mono (hashes_any tag pi ids.length ci pc classes.length cc w) ?_
  rintro e w' ⟨rfl, rfl⟩
  obtain ⟨w1, hw1⟩ : ∃ w1, w.alloc (.cells #[.string tag] 9) = w1 := ⟨_, rfl⟩
  obtain ⟨w2, hw2⟩ : ∃ w2, w1.alloc (.cells #[.slice pi ids.length ci] 22) = w2 := ⟨_, rfl⟩
  obtain ⟨w3, hw3⟩ : ∃ w3, w2.alloc (.cells #[.slice pc classes.length cc] 22) = w3 := ⟨_, rfl⟩
  rw [hw1, hw2, hw3]
  have s1 : w1.heap.size = w.heap.size + 1 := by rw [← hw1]; simp
  have s2 : w2.heap.size = w.heap.size + 2 := by rw [← hw2]; simp; omega
  have s3 : w3.heap.size = w.heap.size + 3 := by rw [← hw3]; simp; omega
  have b1 : Below w.heap.size w w1 := by rw [← hw1]; exact (Below.refl _ w).alloc (Nat.le_refl _) _
  have b2 : Below w1.heap.size w1 w2 := by rw [← hw2]; exact (Below.refl _ w1).alloc (Nat.le_refl _) _
  have b3 : Below w2.heap.size w2 w3 := by rw [← hw3]; exact (Below.refl _ w2).alloc (Nat.le_refl _) _
  have bb : Below w.heap.size w w3 := (b1.trans (b2.mono (by omega))).trans (b3.mono (by omega))
  have cT : w3.cell? ⟨w.heap.size, 0, none⟩ = some (.string tag) := (b3.cell (p := ⟨w.heap.size, 0, none⟩) (by simp; omega)).trans ((b2.cell (p := ⟨w.heap.size, 0, none⟩) (by simp; omega)).trans (by rw [← hw1]; exact (Boxed.new w _ _).cell))
  have cI : w3.cell? ⟨w.heap.size + 1, 0, none⟩ = some (.slice pi ids.length ci) := (b3.cell (p := ⟨w.heap.size + 1, 0, none⟩) (by simp; omega)).trans (by rw [← hw2, ← s1]; exact (Boxed.new w1 _ _).cell)
  have cC : w3.cell? ⟨w.heap.size + 2, 0, none⟩ = some (.slice pc classes.length cc) := by rw [← hw3, ← s2]; exact (Boxed.new w2 _ _).cell
  have hi3 := hi.kept (Y := w3) (fun r h1 h2 => bb.block r (hi.lt h2 h1))
  have hc3 := hc.kept (Y := w3) (fun r h1 h2 => bb.block r (hc.lt h2 h1))
  refine ⟨_, _, rfl, bb, fun r hr => ?_, fun n => hashes_seq n w.heap.size (w.heap.size + 1) (w.heap.size + 2) tag _ _ ids classes w3 ht cT cI cC hi3 hc3⟩
  rcases hr with rfl | rfl | rfl | ⟨h1, h2⟩ | ⟨h1, h2⟩
  · exact ⟨by omega, .inl (by omega)⟩
  · exact ⟨by omega, .inl (by omega)⟩
  · exact ⟨by omega, .inl (by omega)⟩
  · exact ⟨hi3.lt h2 h1, .inr (.inl ⟨h1, h2⟩)⟩
  · exact ⟨hc3.lt h2 h1, .inr (.inr ⟨h1, h2⟩)⟩

/-- What names a node has. -/
def nodeV (tag id : ByteArray) (cls : List ByteArray) : List Nat := namesV tag (if id = ⟨#[]⟩ then [] else [id]) cls

set_option maxRecDepth 100000 in
set_option maxHeartbeats 1000000 in
theorem hashesOf_any (pa : Int) (tag id : ByteArray) (pc : Option Addr) (cc : Nat) (pv : Option Addr) (mv cv : Nat) (cls : List ByteArray) (w : World) (ht : tag.size ≤ 281474976710656) (hid : id.size ≤ 281474976710656) (hc : StrsR w (.slice pc cls.length cc) cls) :
    Calls Try.prog 25 #[.agg #[.int .i64 pa, .string tag, .string id, .slice pc cls.length cc, .slice pv mv cv]] w fun e w' => ∃ lb R, e = .returned (.func (.func 43) #[] lb) ∧ Below w.heap.size w w' ∧ (∀ r, R r → r < w'.heap.size) ∧ ∀ n, SeqD Fence.wide n Try.prog 43 lb (fun x : Nat => #[.int .i64 x]) R (nodeV tag id cls) w' := by
  obtain ⟨w1, hw1⟩ : ∃ w1, w.alloc (.cells #[.int .i64 pa, .string tag, .string id, .slice pc cls.length cc, .slice pv mv cv] 25) = w1 := ⟨_, rfl⟩
  have b1 : Below w.heap.size w w1 := by rw [← hw1]; exact (Below.refl _ w).alloc (Nat.le_refl _) _
  have k1 : Blk w1 w.heap.size 25 [.int .i64 pa, .string tag, .string id, .slice pc cls.length cc, .slice pv mv cv] := by rw [← hw1]; exact Blk.new w _ _
  obtain ⟨⟨_, x1, x2, x3, _⟩, _⟩ := blk5 k1
  have hc1 := hc.kept (Y := w1) (fun r h1 h2 => b1.block r (hc.lt h2 h1))
  have HB : Hid (_ ∧ _) := ⟨b1, hc1⟩
  have hs1 : w.heap.size < w1.heap.size := k1.lt
  clear hc k1 b1 hc1
  by_cases h0 : id = ⟨#[]⟩
  · have hne : id.toList.isEmpty = true := by rw [h0, ByteArray.toList_eq]; rfl
    have hh := hashes_of tag (.slice none 0 0) (.slice pc cls.length cc) [] cls w1 ht ⟨.inl ⟨rfl, _, _, rfl⟩, fun _ h => by simp at h⟩ HB.out.2
    have HV : Hid (nodeV tag id cls = namesV tag [] cls) := by show _ = _; unfold nodeV; rw [if_pos h0]
    clear h0
    go_enter Try.func25, Try.ntmps25
    go_wp2_with fail
    go_at_call 35
    refine Calls.mono hh ?_
    clear hh
    rintro e w' ⟨lb, R, rfl, bb, hR, hseq⟩
    go_wp2
    go_ret
    exact ⟨lb, R, rfl, HB.out.1.trans (bb.mono (by omega)), fun r hr => (hR r hr).1, by rw [HV.out]; exact hseq⟩
  · have hne := bytes_nil h0
    obtain ⟨w2, hw2⟩ : ∃ w2, w1.alloc (.cells #[.string id] 9) = w2 := ⟨_, rfl⟩
    have b2 : Below w1.heap.size w1 w2 := by rw [← hw2]; exact (Below.refl _ w1).alloc (Nat.le_refl _) _
    have hi2 : StrsR w2 (.slice (some ⟨w1.heap.size, 0, none⟩) 1 1) [id] := by
      refine ⟨.inr ⟨w1.heap.size, 0, 1, rfl, by simp, by decide, fun j x hx => ?_⟩, fun x hx => by simp at hx; subst hx; exact hid⟩
      have hj : j = 0 := by
        have := (List.getElem?_eq_some_iff.1 hx).1
        simp at this; exact this
      subst hj
      simp at hx; subst hx
      rw [← hw2]
      exact (Boxed.new w1 9 (.string id)).cell
    have hh := hashes_of tag (.slice (some ⟨w1.heap.size, 0, none⟩) 1 1) (.slice pc cls.length cc) [id] cls w2 ht hi2 (HB.out.2.kept (fun r h1 h2 => b2.block r (HB.out.2.lt h2 h1)))
    have HV : Hid (nodeV tag id cls = namesV tag [id] cls) := by show _ = _; unfold nodeV; rw [if_neg h0]
    have HB2 : Hid (Below _ _ _) := b2
    have y1 := (b2.cell (p := ⟨w.heap.size, 1, none⟩) hs1).trans x1
    have y3 := (b2.cell (p := ⟨w.heap.size, 3, none⟩) hs1).trans x3
    clear h0 b2 hi2
    go_enter Try.func25, Try.ntmps25
    go_wp2_with fail
    go_at_call 35
    refine Calls.mono hh ?_
    clear hh
    rintro e w' ⟨lb, R, rfl, bb, hR, hseq⟩
    go_wp2
    go_ret
    exact ⟨lb, R, rfl, (HB.out.1.trans (HB2.out.mono (by omega))).trans (bb.mono (by have := HB2.out.size; omega)), fun r hr => (hR r hr).1, by rw [HV.out]; exact hseq⟩

theorem names_len (tag : ByteArray) (ids classes : List ByteArray) : (namesV tag ids classes).length ≤ 1 + ids.length + classes.length := by
  rw [names_split]
  split <;> simp <;> omega
set_option maxRecDepth 100000 in
/-- bloom.Of AT EVERY NODE. -/
theorem of_any (pa : Int) (tag id : ByteArray) (pc : Option Addr) (cc : Nat) (pv : Option Addr) (mv cv : Nat) (cls : List ByteArray) (w : World) (ht : tag.size ≤ 281474976710656) (hid : id.size ≤ 281474976710656) (hc : StrsR w (.slice pc cls.length cc) cls) (hl : cls.length ≤ 1000000) :
    Calls Try.prog 12 #[.agg #[.int .i64 pa, .string tag, .string id, .slice pc cls.length cc, .slice pv mv cv]] w fun e w' => ∃ v, e = .returned v ∧ NumRow w.heap.size w' v (nodeV tag id cls) ∧ Below w.heap.size w w' := by
  obtain ⟨w1, hw1⟩ : ∃ w1, w.alloc (.cells #[.int .i64 pa, .string tag, .string id, .slice pc cls.length cc, .slice pv mv cv] 25) = w1 := ⟨_, rfl⟩
  have b1 : Below w.heap.size w w1 := by rw [← hw1]; exact (Below.refl _ w).alloc (Nat.le_refl _) _
  have k1 : Blk w1 w.heap.size 25 [.int .i64 pa, .string tag, .string id, .slice pc cls.length cc, .slice pv mv cv] := by rw [← hw1]; exact Blk.new w _ _
  obtain ⟨⟨x0, x1, x2, x3, x4⟩, _⟩ := blk5 k1
  have hh := hashesOf_any pa tag id pc cc pv mv cv cls w1 ht hid (hc.kept (fun r h1 h2 => b1.block r (hc.lt h2 h1)))
  have hs1 : w.heap.size < w1.heap.size := k1.lt
  have hnl : (nodeV tag id cls).length ≤ 1099511627776 := by
    have := names_len tag (if id = ⟨#[]⟩ then [] else [id]) cls
    have h2 : (if id = ⟨#[]⟩ then [] else [id]).length ≤ 1 := by split <;> simp
    unfold nodeV; omega
  have HB : Hid (_ ∧ _) := ⟨b1, hnl⟩
  clear hc k1 b1 hnl
  go_enter Try.func12, Try.ntmps12
  go_wp2_with fail
  go_at_call 25
  refine Calls.mono hh ?_
  clear hh x0 x1 x2 x3 x4
  rintro e w2 ⟨lb, R, rfl, bb, hR, hseq⟩
  have hcol := collect_D 2 43 lb _ R w2 HB.out.2 egHashes hR (hseq 2)
  have HB2 : Hid (Below _ _ _) := bb
  clear hR hseq bb hw1
  go_wp2_with fail
  go_at_call 22
  refine Calls.mono hcol ?_
  clear hcol
  rintro e w3 ⟨v, rfl, h1, h2⟩
  obtain ⟨q, c, rfl⟩ := owns_form h1
  have h4 := HB2.out.size
  go_wp2
  go_ret
  refine ⟨_, rfl, ?_, ((HB.out.1.trans (HB2.out.mono (by omega))).trans (h2.mono (by omega)))⟩
  rcases h1.2 with ⟨e1, e2⟩ | ⟨g, cap, cur, e1, e2, e3⟩
  · exact ⟨h1.1, .inl ⟨e1, e2⟩⟩
  · exact ⟨h1.1, .inr ⟨g, cap, cur, e1, by omega, e3⟩⟩

set_option maxRecDepth 100000 in
theorem upward_any (c : Int) (w : World) : Calls Try.prog 42 #[.int .i64 c] w fun e w' => e = .returned (.bool (decide (c = 1 ∨ c = 2))) ∧ w' = w := by
  by_cases h1 : c = 1
  · have e1 : (c == 1) = true := by simp [h1]
    rw [decide_eq_true (.inl h1)]
    clear h1
    go_enter Try.func42, Try.ntmps42
    go_wp2
    go_ret
    exact ⟨rfl, rfl⟩
  · have e1 : (c == 1) = false := by simpa using h1
    by_cases h2 : c = 2
    · have e2 : (c == 2) = true := by simp [h2]
      rw [decide_eq_true (.inr h2)]
      clear h1 h2
      go_enter Try.func42, Try.ntmps42
      go_wp2
      go_ret
      exact ⟨rfl, rfl⟩
    · have e2 : (c == 2) = false := by simpa using h2
      rw [decide_eq_false (fun h => h.elim h1 h2)]
      clear h1 h2
      go_enter Try.func42, Try.ntmps42
      go_wp2
      go_ret
      exact ⟨rfl, rfl⟩

end Go.Proofs.Ytiaikkbmgnaikaa.Bl
