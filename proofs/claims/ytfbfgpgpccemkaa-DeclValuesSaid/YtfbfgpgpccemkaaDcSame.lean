/- The document's own SameTokens and SameDecls at two slices of one list. -/
import Derived.Test.YtfbfgpgpccemkaaDcParse
namespace Go.Proofs.Ytfbfgpgpccemkaa.Dc
open Go Go.RowKit Go.Shelf

theorem drewN_size (w : World) (n : Nat) : (w.drewN n).heap.size = w.heap.size := rfl
theorem bts_heap {w W : World} {v : Value} {l : List Bt} (h : BtsAt w.heap.size w v l) (e : W.heap = w.heap) : BtsAt W.heap.size W v l := by
  have hc : ∀ p, W.cell? p = w.cell? p := fun p => by unfold World.cell?; rw [e]
  rw [e]
  rcases h with h | ⟨bk, off, cap, rfl, h1, h2, hbk, h⟩
  · exact .inl h
  · refine .inr ⟨bk, off, cap, rfl, h1, h2, hbk, fun j t hj => ?_⟩
    obtain ⟨c0, c1, c2, c3, c4⟩ := h j t hj
    exact ⟨(hc _).trans c0, (hc _).trans c1, (hc _).trans c2, (hc _).trans c3, (hc _).trans c4⟩

set_option maxRecDepth 100000 in
set_option maxHeartbeats 2000000 in
/-- SameTokens: yes, where both hold one list. -/
theorem sameBts_yes (v v' : Value) (l : List Bt) (w : World) (hv : BtsAt w.heap.size w v l) (hv' : BtsAt w.heap.size w v' l) :
    Calls Try.prog 16 #[v, v'] w fun e w' => e = .returned (.bool true) ∧ ∃ n, w' = w.drewN n := by
  have hl := hv.short
  obtain ⟨p, cap, rfl⟩ := hv.len
  obtain ⟨p', cap', rfl⟩ := hv'.len
  go_enter Try.func16, Try.ntmps16
  go_wp2
  go_loopw [5] (fun i wr => ∃ k n : Nat, i = .int .i64 k ∧ k ≤ l.length ∧ wr = w.drewN n) (fun i _ => l.length - (intOf i).toNat)
  case atStart => exact ⟨0, 0, rfl, Nat.zero_le _, rfl⟩
  case round =>
    obtain ⟨k, n, rfl, hk, rfl⟩ := hrel
    by_cases hlt : k < l.length
    · obtain ⟨bk, off, rfl, _, _, _, a0, a1, a2, a3, a4⟩ := hv.get (List.getElem?_eq_getElem hlt)
      obtain ⟨bk', off', rfl, _, _, _, b0, b1, b2, b3, b4⟩ := hv'.get (List.getElem?_eq_getElem hlt)
      clear hv hv'
      generalize l[k] = t at *
      have hki : (k : Int) < (l.length : Int) := by omega
      go_wp2
      go_quiet (fail)
      go_wp2
      exact ⟨⟨k + 1, _, by go_num, by omega, rfl⟩, by simp [intOf]; omega⟩
    · have hki : ¬ (k : Int) < (l.length : Int) := by omega
      go_wp2
      go_ret
      exact ⟨rfl, n, rfl⟩

theorem cells_at : ∀ (qs : List (Dc × Value)) (k : Nat) (q : Dc × Value), qs[k]? = some q → (qs.flatMap dcCells)[k * 3]? = some (.string q.1.name) ∧ (qs.flatMap dcCells)[k * 3 + 1]? = some q.2 ∧ (qs.flatMap dcCells)[k * 3 + 2]? = some (.bool q.1.imp)
  | [], _, _, h => by simp at h
  | x :: l, 0, p, h => by
    obtain rfl : x = p := by simpa using h
    exact ⟨rfl, rfl, rfl⟩
  | x :: l, k + 1, p, h => by
    have ih := cells_at l k p (by simpa using h)
    rw [List.flatMap_cons, show (k + 1) * 3 = k * 3 + 1 + 1 + 1 by omega]
    exact ⟨by simpa [dcCells] using ih.1, by simpa [dcCells] using ih.2.1, by simpa [dcCells] using ih.2.2⟩
theorem DcsAt.form {b : Nat} {W : World} {v : Value} {qs : List (Dc × Value)} (h : DcsAt b W v qs) : ∃ p cap, v = .slice p qs.length cap := form_of h.row
theorem DcsAt.short {b : Nat} {W : World} {v : Value} {qs : List (Dc × Value)} (h : DcsAt b W v qs) : qs.length ≤ 9223372036854775807 := by
  rcases h.row.2 with ⟨_, h0⟩ | ⟨g, cap, cur, _, _, _, h1, h2, h3, _⟩
  · omega
  · unfold maxLen at *
    omega
/-- A declaration, where there is one. -/
theorem DcsAt.get {b : Nat} {W : World} {p : Option Addr} {n cap : Nat} {qs : List (Dc × Value)} (h : DcsAt b W (.slice p n cap) qs) {k : Nat} {d : Dc} (hk : (qs.map Prod.fst)[k]? = some d) :
    ∃ bk off q1 c1, p = some ⟨bk, off, none⟩ ∧ W.cell? ⟨bk, off + k * 3, none⟩ = some (.string d.name) ∧ W.cell? ⟨bk, off + k * 3 + 1, none⟩ = some (.slice q1 d.value.length c1) ∧ W.cell? ⟨bk, off + k * 3 + 2, none⟩ = some (.bool d.imp) ∧ BtsAt W.heap.size W (.slice q1 d.value.length c1) d.value := by
  rw [List.getElem?_map] at hk
  obtain ⟨q, hq, rfl⟩ := Option.map_eq_some_iff.1 hk
  have hlt : k < qs.length := (List.getElem?_eq_some_iff.1 hq).1
  have e1 := h.each q (List.mem_of_getElem? hq)
  obtain ⟨d, x⟩ := q
  change W.ownsRow b _ 5 x d.value.length (btsCells d.value) at e1
  obtain ⟨q1, c1, rfl⟩ := form_of e1
  obtain ⟨p1, p2, p3⟩ := cells_at qs k _ hq
  have t1 := BtsAt.of_owns e1 rfl
  rcases h.row.2 with ⟨_, h0⟩ | ⟨g, cap, cur, hv, hg, hb, h1, h2, h3, h4⟩
  · omega
  · cases hv
    have key : ∀ i, i < qs.length * 3 → W.cell? ⟨g, 0 + i, none⟩ = (qs.flatMap dcCells)[i]? := fun i hi => by
      rw [cell_of_block hb, Nat.zero_add, ← h4, List.getElem?_take_of_lt (by omega)]
      simp
    exact ⟨g, 0, q1, c1, rfl, by rw [key _ (by omega), p1], by rw [Nat.add_assoc, key _ (by omega), p2], by rw [Nat.add_assoc, key _ (by omega), p3], t1⟩
theorem beq_self (s : ByteArray) : (s.toList == s.toList) = true := by simp

set_option maxRecDepth 100000 in
set_option maxHeartbeats 1000000 in
/-- SameDecls: yes, where both hold one list. -/
theorem sameDecls_yes (v v' : Value) (qs qs' : List (Dc × Value)) (b b' : Nat) (w : World) (hv : DcsAt b w v qs) (hv' : DcsAt b' w v' qs') (he : qs.map Prod.fst = qs'.map Prod.fst) :
    Calls Try.prog 10 #[v, v'] w fun e w' => e = .returned (.bool true) ∧ ∃ n, w' = w.drewN n := by
  have hl := hv.short
  have hlen : qs'.length = qs.length := by
    have := congrArg List.length he
    simpa using this.symm
  obtain ⟨p, cap, rfl⟩ := hv.form
  obtain ⟨p', cap', rfl⟩ := hv'.form
  rw [hlen] at hv' ⊢
  obtain ⟨ds, hds⟩ : ∃ ds, qs.map Prod.fst = ds := ⟨_, rfl⟩
  have hdl : ds.length = qs.length := by rw [← hds, List.length_map]
  have G1 := fun k (h : k < ds.length) => hv.get (k := k) (d := ds[k]) (by rw [hds]; exact List.getElem?_eq_getElem h)
  have G2 := fun k (h : k < ds.length) => hv'.get (k := k) (d := ds[k]) (by rw [← he, hds]; exact List.getElem?_eq_getElem h)
  clear hv hv' he hds hlen
  rw [← hdl] at hl ⊢ 
  clear hdl
  go_enter Try.func10, Try.ntmps10
  go_wp2
  go_loopw [5] (fun i wr => ∃ k n : Nat, i = .int .i64 k ∧ k ≤ ds.length ∧ wr = w.drewN n) (fun i _ => ds.length - (intOf i).toNat)
  case atStart => exact ⟨0, 0, rfl, Nat.zero_le _, rfl⟩
  case round =>
    obtain ⟨k, n, rfl, hk, hwr⟩ := hrel
    have HW : Hid (wr = w.drewN n) := hwr
    by_cases hlt : k < ds.length
    · obtain ⟨bk, off, q1, c1, rfl, a0, a1, a2, t1⟩ := G1 k hlt
      obtain ⟨bk', off', q1', c1', rfl, b0, b1, b2, t1'⟩ := G2 k hlt
      clear G1 G2
      generalize ds[k] = d at *
      obtain ⟨dn, dv, di⟩ := d
      simp only at a0 a1 a2 b0 b1 b2 t1 t1'
      have hki : (k : Int) < (ds.length : Int) := by omega
      have hh : wr.heap = w.heap := by rw [hwr]; rfl
      replace a0 : wr.cell? ⟨bk, off + k * 3, none⟩ = some (.string dn) := by rw [hwr]; exact a0
      replace a1 : wr.cell? ⟨bk, off + k * 3 + 1, none⟩ = some (.slice q1 dv.length c1) := by rw [hwr]; exact a1
      replace a2 : wr.cell? ⟨bk, off + k * 3 + 2, none⟩ = some (.bool di) := by rw [hwr]; exact a2
      replace b0 : wr.cell? ⟨bk', off' + k * 3, none⟩ = some (.string dn) := by rw [hwr]; exact b0
      replace b1 : wr.cell? ⟨bk', off' + k * 3 + 1, none⟩ = some (.slice q1' dv.length c1') := by rw [hwr]; exact b1
      replace b2 : wr.cell? ⟨bk', off' + k * 3 + 2, none⟩ = some (.bool di) := by rw [hwr]; exact b2
      have T1 : ∀ W : World, W.heap = wr.heap → BtsAt W.heap.size W (.slice q1 dv.length c1) dv := fun W e => bts_heap t1 (e.trans hh)
      have T1' : ∀ W : World, W.heap = wr.heap → BtsAt W.heap.size W (.slice q1' dv.length c1') dv := fun W e => bts_heap t1' (e.trans hh)
      clear t1 t1' hh hwr
      go_wp2_with fail
      go_quiet ((go_at_call 16; exact Calls.quiet_of (sameBts_yes _ _ _ _ (by exact T1 _ rfl) (by exact T1' _ rfl))))
      clear T1 T1'
      go_wp2
      exact ⟨⟨k + 1, n + nq, by go_num, by omega, by rw [show wr = w.drewN n from HW, World.drewN_drewN]⟩, by simp [intOf]; omega⟩
    · have hki : ¬ (k : Int) < (ds.length : Int) := by omega
      clear hwr
      go_wp2
      go_ret
      exact ⟨rfl, n, HW⟩

end Go.Proofs.Ytfbfgpgpccemkaa.Dc
