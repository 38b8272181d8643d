/- The document's own cache: NewCache, take at every cache. -/
import Derived.Test.YtamcomlnfdfmeaaLrUse
namespace Go.Proofs.Ytamcomlnfdfmeaa.Lr
open Go Go.RowKit Go.Shelf Sl
attribute [local go_sem] Oper.semAt_some

theorem owns_src {W : World} {b : Nat} {t : TypeId} {v : Value} {m : Nat} {xs : List Value} (h : W.ownsRow b t 2 v m xs) :
    (v = .slice none 0 0 ∧ m = 0) ∨ ∃ ad c, v = .slice (some ad) m c ∧ ∀ j u, xs[j]? = some u → W.cell? (ad.add j) = some u := by
  rcases h.2 with h0 | ⟨g, c, cur, rfl, _, hg, h1, h2, h3, h4⟩
  · exact .inl h0
  · refine .inr ⟨⟨g, 0, none⟩, c, rfl, fun j u hj => ?_⟩
    have hlt : j < m * 2 := by rw [← h.1]; exact (List.getElem?_eq_some_iff.1 hj).1
    rw [← h4, List.getElem?_take_of_lt hlt, Array.getElem?_toList] at hj
    rw [addr_addL, Nat.zero_add]
    simp [World.cell?, hg, hj]
/-- A part of a row, read from its n-th entry on. -/
theorem row_from {t : TypeId} {W : World} {g m c : Nat} {l : List En} (h : EntR t W (.slice (some ⟨g, 0, none⟩) m c) l) (n : Nat) : ∀ j u, (flat (l.drop n))[j]? = some u → W.cell? ((⟨g, n * 2, none⟩ : Addr).add j) = some u := by
  intro j u hj
  rw [flat_drop, List.getElem?_drop] at hj
  rcases owns_src h with ⟨h0, _⟩ | ⟨ad, c', e, hc⟩
  · cases h0
  · cases e
    have := hc _ _ hj
    rw [addr_addL] at this ⊢
    rwa [Nat.zero_add] at this
theorem row_rest {t : TypeId} {W : World} {g cap : Nat} {l : List En} (h : EntR t W (.slice (some ⟨g, 0, none⟩) l.length cap) l) {n : Nat} (hn : n ≤ l.length) :
    ∃ ad, (if cap = n then some (⟨g, 0, none⟩ : Addr) else some ⟨g, n * 2, none⟩) = some ad ∧ ∀ j u, (flat (l.drop n))[j]? = some u → W.cell? (ad.add j) = some u := by
  by_cases hc : cap = n
  · refine ⟨_, if_pos hc, fun j u hj => ?_⟩
    rcases h.2 with ⟨h0, _⟩ | ⟨g', c', cur, e, _, _, h1, _⟩
    · cases h0
    · cases e
      rw [List.drop_eq_nil_of_le (by omega)] at hj
      simp [flat] at hj
  · exact ⟨_, if_neg hc, row_from h n⟩
theorem row_to {t : TypeId} {W : World} {g m c : Nat} {l : List En} (h : EntR t W (.slice (some ⟨g, 0, none⟩) m c) l) (n : Nat) : ∀ j u, (flat (l.take n))[j]? = some u → W.cell? ((⟨g, 0, none⟩ : Addr).add j) = some u := by
  intro j u hj
  rw [flat_take] at hj
  rcases owns_src h with ⟨h0, _⟩ | ⟨ad, c', e, hc⟩
  · cases h0
  · cases e
    refine hc _ _ ?_
    have hlt : j < n * 2 := by
      have := (List.getElem?_eq_some_iff.1 hj).1
      rw [List.length_take] at this
      omega
    rwa [List.getElem?_take_of_lt hlt] at hj
theorem out_at {l : List En} (hd : (keysV l).Nodup) {i : Nat} {k v : Int} (hi : l[i]? = some (k, v)) : outV k l = l.take i ++ l.drop (i + 1) := by
  have hlt := (List.getElem?_eq_some_iff.1 hi).1
  have hsp : l = l.take i ++ (k, v) :: l.drop (i + 1) := by
    have := List.take_append_drop (i + 1) l
    rw [List.take_add_one, hi, List.append_assoc] at this
    exact this.symm
  have hd2 := hd
  rw [hsp] at hd2
  unfold keysV at hd2
  rw [List.map_append, List.map_cons] at hd2
  obtain ⟨h1, h2, h3⟩ := List.nodup_append.1 hd2
  obtain ⟨h4, _⟩ := List.nodup_cons.1 h2
  have a1 : outV k (l.take i) = l.take i := out_same (fun e => h3 _ e _ (List.mem_cons_self ..) rfl)
  have a2 : outV k (l.drop (i + 1)) = l.drop (i + 1) := out_same h4
  conv => lhs; rw [hsp]
  unfold outV at *
  rw [List.filter_append, List.filter_cons_of_neg (by simp), a1, a2]
theorem Good.out {s : Nat} {l : List En} (h : Good s l) (k : Int) : Good s (outV k l) := ⟨Nat.le_trans (out_len k l) h.few, by rw [keys_out]; exact h.apart.sublist List.filter_sublist⟩

set_option maxRecDepth 100000 in
theorem refNew_any (n : Int) (w : World) :
    Calls Try.prog 8 #[.int .i64 n] w fun e w' => e = .returned (.pointer (some ⟨w.heap.size, 0, none⟩)) ∧ w' = w.alloc (.cells #[.int .i64 (cutV n), .slice none 0 0] 47) := by
  by_cases h0 : n < 0
  · have d1 : decide (n < 0) = true := by simpa using h0
    have hc : (cutV n : Int) = 0 := by unfold cutV; omega
    rw [hc]
    clear h0 hc
    go_enter Try.func8, Try.ntmps8
    go_wp2
    go_ret
    exact ⟨rfl, rfl⟩
  · have d1 : decide (n < 0) = false := by simpa using h0
    by_cases h1 : 1024 < n
    · have d2 : decide (1024 < n) = true := by simpa using h1
      have hc : (cutV n : Int) = 1024 := by unfold cutV; omega
      rw [hc]
      clear h0 hc
      go_enter Try.func8, Try.ntmps8
      go_wp2
      go_ret
      exact ⟨rfl, rfl⟩
    · have d2 : decide (1024 < n) = false := by simpa using h1
      have hc : (cutV n : Int) = n := by unfold cutV; omega
      rw [hc]
      clear h0 hc
      go_enter Try.func8, Try.ntmps8
      go_wp2
      go_ret
      exact ⟨rfl, rfl⟩
theorem RV.new (n : Int) (w : World) : RV (w.alloc (.cells #[.int .i64 (cutV n), .slice none 0 0] 47)) w.heap.size (cutV n) (.slice none 0 0) [] :=
  ⟨World.alloc_heap_new w _, World.ownsRow_nil _ _ _ _, Good.nil _, by unfold cutV; omega⟩

set_option maxRecDepth 100000 in
set_option maxHeartbeats 1000000 in
theorem take_any (b s : Nat) (v : Value) (l : List En) (k : Int) (w : World) (h : RV w b s v l) :
    Calls Try.prog 18 #[.pointer (some ⟨b, 0, none⟩), .int .i64 k] w fun e w' => e = .returned (.tuple #[.int .i64 (getR l k).1, .bool (getR l k).2]) ∧ ∃ v', RV w' b s v' (outV k l) ∧ Fr (fun r => r = b) (fun r => r = b) w w' := by
  obtain ⟨p, cap, rfl⟩ := h.row.form
  have H : Hid (RV w b s (.slice p l.length cap) l) := h
  obtain ⟨c0, c1, c2⟩ := h.cells
  have hfew := h.few
  have hbw := h.lt
  obtain ⟨i0, hi, hz0, hz1, hz2⟩ := info_of infoRn
  clear h
  go_enter Try.func18, Try.ntmps18
  go_wp2_with fail
  go_loopw [6] (fun x wr => ∃ i : Nat, x = .int .i64 i ∧ i ≤ l.length ∧ wr = w ∧ Hid (∀ y ∈ l.take i, y.1 ≠ k)) (fun x _ => l.length - (intOf x).toNat)
  case atStart => exact ⟨0, rfl, Nat.zero_le _, rfl, fun y hy => by simp at hy⟩
  case round =>
    obtain ⟨i, rfl, hil, hw, hpre⟩ := hrel
    obtain rfl := hw.symm
    by_cases hlt : i < l.length
    · have d : decide (i < l.length) = true := by simpa using hlt
      obtain ⟨⟨y1, y2⟩, hy⟩ : ∃ y, l[i]? = some y := ⟨_, List.getElem?_eq_getElem hlt⟩
      obtain ⟨g, rfl, e1, e2⟩ := H.out.row.get hy
      simp only at e1 e2
      have hii : (i : Int) < (l.length : Int) := by omega
      have HY : Hid (l[i]? = some (y1, y2)) := hy
      by_cases hk : y1 = k
      · have hb : (y1 == k) = true := by simp [hk]
        obtain ⟨ad, had, hcs⟩ := row_rest H.out.row (n := i + 1) (by omega)
        have hto := row_to H.out.row i
        have hdl : (flat (l.drop (i + 1))).length = (l.length - (i + 1)) * 2 := by rw [flat_len, List.length_drop]
        have htl : (flat (l.take i)).length = i * 2 := by rw [flat_len, List.length_take]; omega
        have hal : i + (l.length - (i + 1)) = (outV k l).length := by
          subst hk
          rw [out_at H.out.good.apart hy, List.length_append, List.length_take, List.length_drop]; omega
        have hcat : flat (l.take i) ++ flat (l.drop (i + 1)) = flat (outV k l) := by
          subst hk
          rw [out_at H.out.good.apart hy, flat_app]
        have hR : Hid (getR l k = (y2, true)) := by
          show _ = _
          unfold getR
          rw [has_split (l := l) (pre := l.take i) (e := (y1, y2)) (post := l.drop (i + 1)) (by
            have := List.take_append_drop (i + 1) l
            rw [List.take_add_one, hy, List.append_assoc] at this
            exact this.symm) hpre.out hk]
        have HC : Hid (_ ∧ _) := ⟨hal, hcat⟩
        have hile : i ≤ 1024 := by omega
        have hrest : l.length - (i + 1) ≤ 1024 := by omega
        have hicap : (i : Int) ≤ (cap : Int) := by
          have := H.out.row
          rcases this.2 with ⟨h0, _⟩ | ⟨g', c', cur, e, _, _, h1, _⟩
          · cases h0
          · cases e; omega
        have hil1 : ((i : Int) + 1) ≤ (l.length : Int) := by omega
        clear hk hil hlt hpre hy hal hcat
        have TKN : Hid (∀ (v3 v4 : Value) (w2 w3 w4 : World), w.grownBy w2 (Value.slice none 0 0).ownBlock → w2.grownBy w3 (Value.slice none 0 0).ownBlock → w3.ownsRow w.heap.size 49 2 v3 (0 + i) ([] ++ flat (l.take i)) → w4.ownsRow w.heap.size 49 2 v4 (i + (l.length - (i + 1))) (flat (l.take i) ++ flat (l.drop (i + 1))) → w3.grownBy w4 (v3 : Value).ownBlock →
            (w4.cell? ⟨b, 1, none⟩ = some (.slice (some ⟨g, 0, none⟩) l.length cap) ∧ w4.frozen? ⟨b, 1, none⟩ = false) ∧ (RV (w4.setCell ⟨b, 1, none⟩ v4) b s v4 (outV k l) ∧ Fr (fun r => r = b) (fun r => r = b) w (w4.setCell ⟨b, 1, none⟩ v4))) := by
          intro v3 v4 w2 w3 w4 g2 g3 o3 o4 g4
          have old : ∀ r, r < w.heap.size → w4.heap[r]? = w.heap[r]? := fun r hr => by
            have e4 := g4.block r (by have := g2.size; have := g3.size; omega) (fun e => by have := (owns_lt o3 e.symm).1; omega)
            exact e4.trans ((g3.block r (by have := g2.size; omega) (by simp [Value.ownBlock])).trans (g2.block r hr (by simp [Value.ownBlock])))
          have hv4 : RV w4 b s (.slice (some ⟨g, 0, none⟩) l.length cap) l := H.out.kept (old b hbw) (fun r hr => old r (H.out.row.lt hr))
          have hs : w.heap.size ≤ w4.heap.size := Nat.le_trans g2.size (Nat.le_trans g3.size g4.size)
          refine ⟨hv4.cells.2, hv4.set (by decide) ?_ (H.out.good.out k), ?_⟩
          · unfold EntR
            rw [← HC.out.1, ← HC.out.2]
            exact owns_baseL o4 (Nat.zero_le _)
          · have f4 : Fr (fun r => r = b) (fun r => r = b) w w4 := ⟨g4.os.trans (g3.os.trans g2.os), g4.tape.trans (g3.tape.trans g2.tape), g4.output.trans (g3.output.trans g2.output), hs, fun r hr _ => old r hr, fun r h => .inl h, fun r h => by rw [h]; omega⟩
            exact f4.grown (setCell_grown _ _ _ _) (fun r e => by cases e; exact .inl rfl)
        go_wp2_with (at_builtin; first | (refine Rg.wpList_append_src _ rfl _ _ 45 rfl w.heap.size 49 i0 _ 2 16 Try.underlying45 hi hz0 hz1 hz2 rfl (by decide) (.slice none 0 0) 0 [] rfl (World.ownsRow_nil _ _ _ _) _ (l.length - (i + 1)) (flat (l.drop (i + 1))) rfl hdl (.inr ⟨ad, _, rfl, hcs⟩) flat_one (by unfold maxLen; omega) (by omega) (Nat.le_refl _) ?_; intro v2 w2 hown2 hgrow2; have hr2 : RV w2 b s (.slice (some ⟨g, 0, none⟩) l.length cap) l := H.out.kept (hgrow2.block b hbw (by simp [Value.ownBlock])) (fun r hr => hgrow2.block r (H.out.row.lt hr) (by simp [Value.ownBlock])); obtain ⟨_, c3, _⟩ := hr2.cells; have hto2 := row_to hr2.row i; have hs2 := hgrow2.size) | (refine Rg.wpList_append_src _ rfl _ _ 45 rfl w.heap.size 49 i0 _ 2 16 Try.underlying45 hi hz0 hz1 hz2 rfl (by decide) (.slice none 0 0) 0 [] rfl (World.ownsRow_nil _ _ _ _) _ i (flat (l.take i)) rfl htl (.inr ⟨⟨g, 0, none⟩, _, rfl, hto2⟩) flat_one (by unfold maxLen; omega) (by omega) hs2 ?_; intro v3 w3 hown3 hgrow3; have hown23 := owns_same hown2 (fun g hg => hgrow3.block g (owns_lt hown2 hg).2 (by simp [Value.ownBlock])); have hs3 : w.heap.size ≤ w3.heap.size := Nat.le_trans hs2 hgrow3.size) | (refine Rg.wpList_append_src _ rfl _ _ 45 rfl w.heap.size 49 i0 _ 2 16 Try.underlying45 hi hz0 hz1 hz2 rfl (by decide) v3 i (flat (l.take i)) rfl (by have h := hown3; rw [Nat.zero_add, List.nil_append] at h; exact h) _ (l.length - (i + 1)) (flat (l.drop (i + 1))) rfl hdl (owns_src (by have h := hown23; rw [Nat.zero_add, List.nil_append] at h; exact h)) flat_one (by unfold maxLen; omega) (by omega) hs3 ?_; intro v4 w4 hown4 hgrow4; obtain ⟨⟨z1, z3⟩, z2⟩ := TKN.out v3 v4 w2 w3 w4 hgrow2 hgrow3 hown3 hown4 hgrow4; have Z : Hid (_ ∧ _) := z2; clear z2; obtain ⟨q4, c4, rfl⟩ := owns_form hown4))
        go_ret2
        exact ⟨by rw [show getR l k = _ from hR.out]; rfl, ⟨_, Z.out.1⟩, Z.out.2⟩
      · have hb : (y1 == k) = false := by simp [hk]
        have HN : Hid (i < l.length) := hlt
        have hn : Hid (∀ y ∈ l.take (i + 1), y.1 ≠ k) := by
          intro y hy'
          rw [List.take_add_one, hy] at hy'
          rcases List.mem_append.1 hy' with h | h
          · exact hpre.out y h
          · simp at h; subst h; exact hk
        clear hk hy hil hlt hpre
        go_wp2
        go_roundw
        case rel => exact ⟨i + 1, by go_num, HN.out, trivial, hn⟩
        case measure => have := HN.out; simp [intOf] <;> omega
    · have d : decide (i < l.length) = false := by simpa using hlt
      obtain rfl : i = l.length := by omega
      have hno : ∀ y ∈ l, y.1 ≠ k := by
        have := hpre.out
        rwa [List.take_length] at this
      have HNO : Hid (hasV l k = none) := has_not hno
      clear hil hlt hpre hno
      go_wp2
      go_ret2
      refine ⟨by unfold getR; rw [show hasV l k = none from HNO.out]; rfl, ⟨.slice p l.length cap, ?_⟩, Fr.refl (fun r e => by rw [e]; exact hbw)⟩
      rw [out_same (has_none HNO.out)]
      exact H.out

end Go.Proofs.Ytamcomlnfdfmeaa.Lr
