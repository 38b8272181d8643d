/- The document's own SameTokens and SameRaws at two slices of one list. -/
import Derived.Test.YteihbpmmjlkkgaaRsParse
namespace Go.Proofs.Yteihbpmmjlkkgaa
open Go Go.RowKit Go.Shelf

theorem drewN_size (w : World) (n : Nat) : (w.drewN n).heap.size = w.heap.size := rfl
theorem bts_heap {w W : World} {v : Value} {l : List Bt} (h : BtsAt w.heap.size w v l) (e : W.heap = w.heap) : BtsAt W.heap.size W v l := by
  have hc : ∀ p, W.cell? p = w.cell? p := fun p => by unfold World.cell?; rw [e]
  rw [e]
  rcases h with h | ⟨bk, off, cap, rfl, h1, h2, hbk, h⟩
  · exact .inl h
  · refine .inr ⟨bk, off, cap, rfl, h1, h2, hbk, fun j t hj => ?_⟩
    obtain ⟨c0, c1, c2, c3, c4⟩ := h j t hj
    exact ⟨(hc _).trans c0, (hc _).trans c1, (hc _).trans c2, (hc _).trans c3, (hc _).trans c4⟩

set_option maxRecDepth 100000 in
set_option maxHeartbeats 2000000 in
/-- SameTokens: yes, where both hold one list. -/
theorem sameBts_yes (v v' : Value) (l : List Bt) (w : World) (hv : BtsAt w.heap.size w v l) (hv' : BtsAt w.heap.size w v' l) :
    Calls Try.prog 10 #[v, v'] w fun e w' => e = .returned (.bool true) ∧ ∃ n, w' = w.drewN n := by
  have hl := hv.short
  obtain ⟨p, cap, rfl⟩ := hv.len
  obtain ⟨p', cap', rfl⟩ := hv'.len
  go_enter Try.func10, Try.ntmps10
  go_wp2
  go_loopw [5] (fun i wr => ∃ k n : Nat, i = .int .i64 k ∧ k ≤ l.length ∧ wr = w.drewN n) (fun i _ => l.length - (intOf i).toNat)
  case atStart => exact ⟨0, 0, rfl, Nat.zero_le _, rfl⟩
  case round =>
    obtain ⟨k, n, rfl, hk, rfl⟩ := hrel
    by_cases hlt : k < l.length
    · obtain ⟨bk, off, rfl, _, _, _, a0, a1, a2, a3, a4⟩ := hv.get (List.getElem?_eq_getElem hlt)
      obtain ⟨bk', off', rfl, _, _, _, b0, b1, b2, b3, b4⟩ := hv'.get (List.getElem?_eq_getElem hlt)
      clear hv hv'
      generalize l[k] = t at *
      have hki : (k : Int) < (l.length : Int) := by omega
      go_wp2
      go_quiet (fail)
      go_wp2
      exact ⟨⟨k + 1, _, by go_num, by omega, rfl⟩, by simp [intOf]; omega⟩
    · have hki : ¬ (k : Int) < (l.length : Int) := by omega
      go_wp2
      go_ret
      exact ⟨rfl, n, rfl⟩

theorem pairs_at : ∀ (vs : List (Value × Value)) (k : Nat) (p : Value × Value), vs[k]? = some p → (vs.flatMap fun p => [p.1, p.2])[k * 2]? = some p.1 ∧ (vs.flatMap fun p => [p.1, p.2])[k * 2 + 1]? = some p.2
  | [], _, _, h => by simp at h
  | x :: l, 0, p, h => by
    obtain rfl : x = p := by simpa using h
    exact ⟨rfl, rfl⟩
  | x :: l, k + 1, p, h => by
    have ih := pairs_at l k p (by simpa using h)
    rw [List.flatMap_cons, show (k + 1) * 2 = k * 2 + 1 + 1 by omega]
    exact ⟨by simpa using ih.1, by simpa using ih.2⟩
theorem RawsAt.form {b : Nat} {W : World} {v : Value} {rs : List Rw} {vs : List (Value × Value)} (h : RawsAt b W v rs vs) : ∃ p cap, v = .slice p rs.length cap := Stk_form h.row
theorem RawsAt.short {b : Nat} {W : World} {v : Value} {rs : List Rw} {vs : List (Value × Value)} (h : RawsAt b W v rs vs) : rs.length ≤ 9223372036854775807 := by
  rcases h.row.2 with ⟨_, h0⟩ | ⟨g, cap, cur, _, _, _, h1, h2, h3, _⟩
  · omega
  · unfold maxLen at *
    omega
/-- A rule, where there is one. -/
theorem RawsAt.get {b : Nat} {W : World} {p : Option Addr} {n cap : Nat} {rs : List Rw} {vs : List (Value × Value)} (h : RawsAt b W (.slice p n cap) rs vs) {k : Nat} {r : Rw} (hk : rs[k]? = some r) :
    ∃ bk off q1 c1 q2 c2, p = some ⟨bk, off, none⟩ ∧ W.cell? ⟨bk, off + k * 2, none⟩ = some (.slice q1 r.1.length c1) ∧ W.cell? ⟨bk, off + k * 2 + 1, none⟩ = some (.slice q2 r.2.length c2) ∧ BtsAt W.heap.size W (.slice q1 r.1.length c1) r.1 ∧ BtsAt W.heap.size W (.slice q2 r.2.length c2) r.2 := by
  have hlt : k < rs.length := (List.getElem?_eq_some_iff.1 hk).1
  obtain ⟨⟨x, y⟩, hx⟩ : ∃ q, vs[k]? = some q := ⟨_, List.getElem?_eq_getElem (by rw [h.len]; exact hlt)⟩
  obtain ⟨e1, e2⟩ := h.each k (x, y) r hx hk
  obtain ⟨q1, c1, rfl⟩ := Stk_form e1
  obtain ⟨q2, c2, rfl⟩ := Stk_form e2
  obtain ⟨p1, p2⟩ := pairs_at vs k _ hx
  have t1 := BtsAt.of_owns e1 rfl
  have t2 := BtsAt.of_owns e2 rfl
  rcases h.row.2 with ⟨_, h0⟩ | ⟨g, cap, cur, hv, hg, hb, h1, h2, h3, h4⟩
  · omega
  · cases hv
    have key : ∀ i, i < rs.length * 2 → W.cell? ⟨g, 0 + i, none⟩ = (vs.flatMap fun p => [p.1, p.2])[i]? := fun i hi => by
      rw [cell_of_block hb, Nat.zero_add, ← h4, List.getElem?_take_of_lt (by omega)]
      simp
    exact ⟨g, 0, q1, c1, q2, c2, rfl, by rw [key _ (by omega), p1], by rw [Nat.add_assoc, key _ (by omega), p2], t1, t2⟩

set_option maxRecDepth 100000 in
set_option maxHeartbeats 1000000 in
/-- SameRaws: yes, where both hold one list. -/
theorem sameRaws_yes (v v' : Value) (rs : List Rw) (vs vs' : List (Value × Value)) (b b' : Nat) (w : World) (hv : RawsAt b w v rs vs) (hv' : RawsAt b' w v' rs vs') :
    Calls Try.prog 7 #[v, v'] w fun e w' => e = .returned (.bool true) ∧ ∃ n, w' = w.drewN n := by
  have hl := hv.short
  obtain ⟨p, cap, rfl⟩ := hv.form
  obtain ⟨p', cap', rfl⟩ := hv'.form
  go_enter Try.func7, Try.ntmps7
  go_wp2
  go_loopw [5] (fun i wr => ∃ k n : Nat, i = .int .i64 k ∧ k ≤ rs.length ∧ wr = w.drewN n) (fun i _ => rs.length - (intOf i).toNat)
  case atStart => exact ⟨0, 0, rfl, Nat.zero_le _, rfl⟩
  case round =>
    obtain ⟨k, n, rfl, hk, hwr⟩ := hrel
    have HW : Hid (wr = w.drewN n) := hwr
    by_cases hlt : k < rs.length
    · obtain ⟨bk, off, q1, c1, q2, c2, rfl, a1, a2, t1, t2⟩ := hv.get (List.getElem?_eq_getElem hlt)
      obtain ⟨bk', off', q1', c1', q2', c2', rfl, b1, b2, t1', t2'⟩ := hv'.get (List.getElem?_eq_getElem hlt)
      clear hv hv'
      generalize rs[k] = r at *
      have hki : (k : Int) < (rs.length : Int) := by omega
      have hh : wr.heap = w.heap := by rw [hwr]; rfl
      replace a1 : wr.cell? ⟨bk, off + k * 2, none⟩ = some (.slice q1 r.1.length c1) := by rw [hwr]; exact a1
      replace a2 : wr.cell? ⟨bk, off + k * 2 + 1, none⟩ = some (.slice q2 r.2.length c2) := by rw [hwr]; exact a2
      replace b1 : wr.cell? ⟨bk', off' + k * 2, none⟩ = some (.slice q1' r.1.length c1') := by rw [hwr]; exact b1
      replace b2 : wr.cell? ⟨bk', off' + k * 2 + 1, none⟩ = some (.slice q2' r.2.length c2') := by rw [hwr]; exact b2
      have T1 : ∀ W : World, W.heap = wr.heap → BtsAt W.heap.size W (.slice q1 r.1.length c1) r.1 := fun W e => bts_heap t1 (e.trans hh)
      have T2 : ∀ W : World, W.heap = wr.heap → BtsAt W.heap.size W (.slice q2 r.2.length c2) r.2 := fun W e => bts_heap t2 (e.trans hh)
      have T1' : ∀ W : World, W.heap = wr.heap → BtsAt W.heap.size W (.slice q1' r.1.length c1') r.1 := fun W e => bts_heap t1' (e.trans hh)
      have T2' : ∀ W : World, W.heap = wr.heap → BtsAt W.heap.size W (.slice q2' r.2.length c2') r.2 := fun W e => bts_heap t2' (e.trans hh)
      clear t1 t2 t1' t2' hh hwr
      go_wp2_with fail
      go_quiet ((go_at_call 10; exact Calls.quiet_of (sameBts_yes _ _ _ _ (by first | exact T1 _ rfl | exact T2 _ rfl) (by first | exact T1' _ rfl | exact T2' _ rfl))))
      clear T1 T2 T1' T2'
      go_wp2
      exact ⟨⟨k + 1, n + nq, by go_num, by omega, by rw [show wr = w.drewN n from HW, World.drewN_drewN]⟩, by simp [intOf]; omega⟩
    · have hki : ¬ (k : Int) < (rs.length : Int) := by omega
      clear hwr
      go_wp2
      go_ret
      exact ⟨rfl, n, HW⟩

end Go.Proofs.Yteihbpmmjlkkgaa
