/- The document's own tree: All, by a stack. -/
import Derived.Test.YtghpllhfgpoidaaDmRefL
namespace Go.Proofs.Ytghpllhfgpoidaa.Dm
open Go Go.RowKit

theorem flat_rev_app (f : Nat → List Nat) (T l : List Nat) : (T ++ l.reverse).reverse.flatMap f = l.flatMap f ++ T.reverse.flatMap f := by simp
theorem stack_len {es : List El} (hO : TreeOk es) : ∀ (T : List Nat), (∀ t ∈ T, t < es.length) → T.length ≤ (T.flatMap (preV es)).length
  | [], _ => by simp
  | t :: T, h => by
    have h1 := stack_len hO T (fun x hx => h x (List.mem_cons_of_mem _ hx))
    obtain ⟨r, hr⟩ := pre_head hO (h t (List.mem_cons_self ..))
    rw [List.flatMap_cons, hr, List.length_append, List.length_cons, List.length_cons]
    omega
/-- The row of a slice whose last element is left off. -/
theorem owns_pop {W : World} {b : Nat} {e : TypeId} {g n cap : Nat} {xs : List Value} {u : Value} (h : W.ownsRow b e 1 (.slice (some ⟨g, 0, none⟩) (n + 1) cap) (n + 1) (xs ++ [u])) (hx : xs.length = n) : W.ownsRow b e 1 (.slice (some ⟨g, 0, none⟩) n cap) n xs := by
  obtain ⟨h0, h1⟩ := h
  refine ⟨by simpa using hx, ?_⟩
  rcases h1 with ⟨h2, _⟩ | ⟨g', cap', cur, hv, hg, hb, h3, h4, h5, h6⟩
  · cases h2
  · cases hv
    refine .inr ⟨g, cap, cur, rfl, hg, hb, by omega, h4, h5, ?_⟩
    have h7 := congrArg (List.take n) h6
    rw [List.take_take, List.take_left' hx] at h7
    rw [← h7]
    congr 1
    omega
theorem owns_top {W : World} {b : Nat} {e : TypeId} {v : Value} {n : Nat} {xs : List Value} {u : Value} (h : W.ownsRow b e 1 v (n + 1) (xs ++ [u])) (hx : xs.length = n) :
    ∃ g c, v = .slice (some ⟨g, 0, none⟩) (n + 1) c ∧ n + 1 ≤ c ∧ c ≤ maxLen ∧ W.cell? ⟨g, n, none⟩ = some u ∧ W.ownsRow b e 1 (.slice (some ⟨g, 0, none⟩) n c) n xs := by
  rcases h.2 with ⟨_, h0⟩ | ⟨g, c, cur, hv, _, _, h1, h2, _⟩
  · omega
  · subst hv
    refine ⟨g, c, rfl, h1, h2, ?_, owns_pop h hx⟩
    rw [h.cellAt n (by omega), List.getElem?_append_right (by omega), hx]
    simp
def lenOf : Value → Nat
  | .slice _ n _ => n
  | _ => 0

/-- What stands between two rounds: what is out, what is still to do. -/
structure Stp (es : List El) (B : Nat) (w wr : World) (x y : Value) (O T : List Nat) : Prop where
  out : wr.ownsRow B 3 1 x O.length (O.map (fun k : Nat => Value.int .i64 k))
  todo : wr.ownsRow B 3 1 y T.length (T.map (fun k : Nat => Value.int .i64 k))
  apart : x.ownBlock = none ∨ x.ownBlock ≠ y.ownBlock
  all : allV es = O ++ T.reverse.flatMap (preV es)
  lt : ∀ t ∈ T, t < es.length
  below : Below B w wr

set_option maxRecDepth 100000 in
set_option maxHeartbeats 4000000 in
theorem refAll_any (b tb : Nat) (nv dv : Value) (ns : List Nv) (ds : List Int) (es : List El) (w : World) (hT : RTr b w tb nv dv ns ds) (hE : Tells es ns ds) (hO : TreeOk es) (hl : es.length ≤ 4096) :
    Calls Try.prog 17 #[.pointer (some ⟨tb, 0, none⟩)] w fun x w' => ∃ v', x = .returned v' ∧ IntRow w.heap.size w' v' (chI (allV es)) ∧ Below w.heap.size w w' := by
  obtain ⟨j0, hj, hx0, hx1, hx2⟩ := info_parts infoInt
  have hnl := hE.len.1
  have hal := all_len hO
  obtain ⟨⟨c0, _⟩, _⟩ := blk2 hT.blk
  obtain ⟨⟨pn, cn, hnv⟩, _⟩ := hT.form
  have HT : Hid (RTr b w tb nv dv ns ds) := hT
  have HE : Hid (Tells es ns ds) := hE
  have HO : Hid (TreeOk es) := hO
  clear hT hE hO
  rw [hnv] at c0
  by_cases hn0 : ns.length = 0
  · have hA : allV es = [] := if_pos (by omega)
    rw [hA]
    rw [hn0] at c0
    clear hnv hA hal
    go_enter Try.func17, Try.ntmps17
    go_wp2
    go_ret
    exact ⟨_, rfl, World.ownsRow_nil _ _ _ _, Below.refl _ _⟩
  · have hne0 : ((ns.length : Int) == 0) = false := by simpa using hn0
    have hA : allV es = preV es 0 := if_neg (by omega)
    have HST : Hid (Stp es w.heap.size w (w.alloc (.cells #[.int .i64 0] 3)) (.slice none 0 0) (.slice (some ⟨w.heap.size, 0, none⟩) 1 1) [] [0]) := by
      refine ⟨World.ownsRow_nil _ _ _ _, ⟨rfl, .inr ⟨w.heap.size, 1, #[.int .i64 0], rfl, Nat.le_refl _, (Blk.new w 3 [.int .i64 0] : Blk _ _ _ _), Nat.le_refl _, by unfold maxLen; omega, rfl, rfl⟩⟩, .inl rfl, by simpa using hA, fun t ht => ?_, (Below.refl _ _).alloc (Nat.le_refl _) _⟩
      obtain rfl : t = 0 := by simpa using ht
      omega
    rw [hnl] at hne0 c0
    clear hA hn0
    go_enter Try.func17, Try.ntmps17
    go_wp2
    go_loopw [3, 4, 5, 6, 7] (fun x y _ _ _ wr => ∃ O T, Stp es w.heap.size w wr x y O T) (fun x _ _ _ _ _ => (allV es).length - lenOf x)
    case atStart => exact ⟨[], [0], HST.out⟩
    case round =>
      obtain ⟨O, T, hS⟩ := hrel
      rcases List.eq_nil_or_concat T with rfl | ⟨T', e, rfl⟩
      · obtain ⟨px, cx, rfl⟩ := owns_form hS.out
        obtain ⟨py, cy, rfl⟩ := owns_form hS.todo
        have hA : allV es = O := by have := hS.all; simpa using this
        have hfin : IntRow w.heap.size wr (.slice px O.length cx) (chI (allV es)) := by
          rw [hA]
          unfold IntRow
          rw [chI_len, show (chI O).map (Value.int .i64) = O.map (fun k : Nat => Value.int .i64 k) by simp [chI]]
          exact hS.out
        have hbl := hS.below
        clear hS
        go_wp2
        go_ret
        exact ⟨_, rfl, hfin, hbl⟩
      · rw [List.concat_eq_append] at hS
        have hall := hS.all
        have hel : e < es.length := hS.lt e (by simp)
        have hTl := stack_len HO.out (T' ++ [e]).reverse (fun t ht => hS.lt t (List.mem_reverse.1 ht))
        have hsum : O.length + ((T' ++ [e]).reverse.flatMap (preV es)).length = es.length := by rw [← hal, hall, List.length_append]
        have htodo := hS.todo
        have hout := hS.out
        have hap := hS.apart
        have hbl := hS.below
        have hlt := hS.lt
        clear hS
        rw [List.length_reverse, List.length_append, List.length_singleton] at hTl
        rw [List.length_append, List.length_singleton, List.map_append, List.map_cons, List.map_nil] at htodo
        have htl := hTl
        have hOl : O.length + T'.length + 1 ≤ 4096 := by omega
        have hOlt : O.length < (allV es).length := by omega
        obtain ⟨px, cx, rfl⟩ := owns_form hout
        obtain ⟨g4, c4, rfl, hc4, hm4, y0, hpop⟩ := owns_top htodo (by simp)
        have hw1 : IntKind.i64.wrap ((T'.length : Int) + 1 - 1) = (T'.length : Int) := by rw [IntKind.wrap_i64]; omega
        unfold maxLen at hm4
        have HR : Hid (wr.ownsRow w.heap.size 3 1 (.slice px O.length cx) O.length (O.map (fun k : Nat => Value.int .i64 k))) := hout
        have hsz := hbl.size
        clear htodo hout
        go_upto_region 9 with (at_builtin; refine wpList_append_lies _ rfl _ _ 35 rfl w.heap.size 3 j0 (.int .i64 0) 1 8 Try.underlying35 hj hx0 hx1 hx2 rfl (by decide) (.slice px O.length cx) _ _ rfl (World.ownsRow.alloc HR.out _) ⟨wr.heap.size, 0, none⟩ 1 1 [.int .i64 (e : Int)] rfl rfl (cells_plain _ [_] _) (fun u hu => by simp at hu; subst hu; rfl) (by decide) (by unfold maxLen; omega) (by omega) (by simp; omega) _ rfl ?_; intro g2 c2 w2 hown2 hgrow2 hloc2 hlt2)
        have hs1 : ∀ o : Obj, (wr.alloc o).heap.size = wr.heap.size + 1 := fun o => World.size_alloc _ _
        have hg4 := owns_lt hpop (g := g4) rfl
        have hne4 : g2 ≠ g4 := by
          rcases hloc2 with h | h
          · rcases hap with h' | h'
            · rw [h'] at h; cases h
            · intro e'; subst e'; exact h' h
          · rw [hs1] at h; omega
        have hpop2 := (hpop.alloc _).kept hgrow2 (.inr (fun h => by
          rcases hap with h' | h'
          · rw [h'] at h; cases h
          · exact h' h.symm))
        have bb2 : Below w.heap.size w w2 := (hbl.alloc hsz _).grown hgrow2 (by rw [hs1]; omega) (fun r e => (owns_lt HR.out e).1)
        have hch := refChildren_any b tb nv dv ns ds es (e : Int) w2 (HT.out.next bb2) HE.out HO.out hl
        clear y0 hw1 hgrow2 hpop HR hap hbl hloc2 hnv c0
        go_wp2_with fail
        refine hch.mono ?_
        clear hch
        rintro x w3 ⟨vl, rfl, hlr, b3⟩
        have hcl : childrenV es (e : Int) = chOf es e := rfl
        rw [hcl] at hlr
        unfold IntRow at hlr
        rw [chI_len, show (chI (chOf es e)).map (Value.int .i64) = (chOf es e).map (fun k : Nat => Value.int .i64 k) by simp [chI]] at hlr
        have hLm : ∀ c ∈ chOf es e, c < es.length := fun c hc => (ch_mem HO.out hel hc).2
        have hpe := preV_eq HO.out hel
        have hfewL : (chOf es e).length ≤ 4096 := by
          have h1 := stack_len HO.out (chOf es e) hLm
          rw [List.reverse_append, List.flatMap_append, List.length_append] at hsum
          simp only [List.reverse_cons, List.reverse_nil, List.nil_append, List.flatMap_cons, List.flatMap_nil, List.append_nil, hpe, List.length_cons] at hsum
          omega
        have hTLl : T'.length + (chOf es e).length ≤ 4096 := by
          have h1 := stack_len HO.out (chOf es e) hLm
          have h2 := stack_len HO.out T'.reverse (fun t ht => hlt t (by simp [List.mem_reverse.1 ht]))
          rw [List.length_reverse] at h2
          rw [List.reverse_append, List.flatMap_append, List.length_append] at hsum
          simp only [List.reverse_cons, List.reverse_nil, List.nil_append, List.flatMap_cons, List.flatMap_nil, List.append_nil, hpe, List.length_cons] at hsum
          omega
        have HNX : Hid (allV es = (O ++ [e]) ++ (T' ++ (chOf es e).reverse).reverse.flatMap (preV es)) := by
          show _ = _
          rw [hall, flat_rev_app, List.reverse_append]
          simp [hpe]
        generalize chOf es e = L at *
        have hout3 := owns_same hown2 (fun g hg => b3.block g (owns_lt hown2 hg).2)
        have htodo3 := owns_same hpop2 (fun g hg => b3.block g (owns_lt hpop2 hg).2)
        have bb3 := below_next bb2 b3
        obtain ⟨pl, cl, rfl⟩ := owns_form hlr
        have hlb : ∀ g, (Value.slice pl L.length cl).ownBlock = some g → w2.heap.size ≤ g ∧ g < w3.heap.size := fun g hg => owns_lt hlr hg
        have hg2 := owns_lt hown2 (g := g2) rfl
        have hg4' := owns_lt hpop2 (g := g4) rfl
        clear hown2 hpop2 b3 bb2 hpe hall hTl hsum htl
        have hw0 : IntKind.i64.wrap ((L.length : Int) - 1) = (L.length : Int) - 1 := by rw [IntKind.wrap_i64]; omega
        go_wp2
        go_loopw [4, 7] (fun y i wq => ∃ m : Nat, i = .int .i64 ((m : Int) - 1) ∧ m ≤ L.length ∧ wq.ownsRow w.heap.size 3 1 y (T' ++ (L.drop m).reverse).length ((T' ++ (L.drop m).reverse).map (fun k : Nat => Value.int .i64 k)) ∧
          wq.ownsRow w.heap.size 3 1 (.slice (some ⟨g2, 0, none⟩) (O.length + 1) c2) (O.length + 1) (O.map (fun k : Nat => Value.int .i64 k) ++ [.int .i64 (e : Int)]) ∧
          wq.ownsRow w2.heap.size 3 1 (.slice pl L.length cl) L.length (L.map (fun k : Nat => Value.int .i64 k)) ∧
          y.ownBlock ≠ some g2 ∧ (y.ownBlock = none ∨ y.ownBlock ≠ (Value.slice pl L.length cl).ownBlock) ∧ Below w.heap.size w wq ∧ w3.heap.size ≤ wq.heap.size) (fun _ i _ => (intOf i + 1).toNat)
        case atStart =>
          refine ⟨L.length, rfl, Nat.le_refl _, by simpa using htodo3, hout3, hlr, ?_, .inr (fun h => ?_), bb3, Nat.le_refl _⟩
          · intro h
            have : g4 = g2 := by simpa [Value.ownBlock] using h
            exact hne4 this.symm
          · have := hlb g4 (by rw [← h]; rfl)
            omega
        case round =>
          rename World => wq
          obtain ⟨m, rfl, hm, ht, ho, hlq, ha1, ha2, bq, hsq⟩ := hrel
          clear htodo3 hout3 hlr bb3 hw0
          by_cases hm0 : m = 0
          · subst hm0
            have hfin : Stp es w.heap.size w wq (.slice (some ⟨g2, 0, none⟩) (O.length + 1) c2) _ (O ++ [e]) (T' ++ L.reverse) := ⟨by simpa using ho, by simpa using ht, .inr (fun h => ha1 h.symm), HNX.out, fun t ht => by
              rcases List.mem_append.1 ht with h | h
              · exact hlt t (by simp [h])
              · exact hLm t (List.mem_reverse.1 h), bq⟩
            obtain ⟨py, cy, rfl⟩ := owns_form ht
            clear ht ho hlq ha1 ha2
            go_wp2
            exact ⟨⟨_, _, hfin⟩, by simp [lenOf]; omega⟩
          · obtain ⟨k, rfl⟩ : ∃ k, m = k + 1 := ⟨m - 1, by omega⟩
            have hkL : k < L.length := by omega
            have hki : (k : Int) < (L.length : Int) := by omega
            have hcast : ((k + 1 : Nat) : Int) - 1 = (k : Int) := by omega
            rw [hcast]
            obtain ⟨c, hc⟩ : ∃ c, L[k]? = some c := ⟨_, List.getElem?_eq_getElem hkL⟩
            have hdr : L.drop k = c :: L.drop (k + 1) := by
              rw [List.drop_eq_getElem_cons hkL]
              congr 1
              have := List.getElem?_eq_getElem hkL
              rw [hc] at this
              exact (Option.some.inj this).symm
            have hrow : T' ++ (L.drop k).reverse = (T' ++ (L.drop (k + 1)).reverse) ++ [c] := by rw [hdr]; simp
            obtain ⟨gl, cl', hgl, hlc, hlm, z0⟩ : ∃ gl cl', (Value.slice pl L.length cl) = .slice (some ⟨gl, 0, none⟩) L.length cl' ∧ L.length ≤ cl' ∧ cl' ≤ maxLen ∧ wq.cell? ⟨gl, k, none⟩ = some (.int .i64 (c : Int)) := by
              rcases hlq.2 with ⟨_, h0⟩ | ⟨gl, cl', cur, hv, _, _, h1, h2, _⟩
              · omega
              · rw [hv] at hlq
                exact ⟨gl, cl', hv, h1, h2, by rw [hlq.cellAt k (by omega), List.getElem?_map, hc]; rfl⟩
            cases hgl
            unfold maxLen at hlm
            obtain ⟨py, cy, rfl⟩ := owns_form ht
            have hYl : (T' ++ (L.drop (k + 1)).reverse).length ≤ 4095 := by simp; omega
            have HY : Hid (wq.ownsRow w.heap.size 3 1 (.slice py (T' ++ (L.drop (k + 1)).reverse).length cy) (T' ++ (L.drop (k + 1)).reverse).length ((T' ++ (L.drop (k + 1)).reverse).map (fun k : Nat => Value.int .i64 k))) := ht
            have HROW : Hid (_ = _) := hrow
            have hszq := bq.size
            clear ht hrow hdr hc hcast
            generalize T' ++ (L.drop (k + 1)).reverse = Y at *
            have hw9 : IntKind.i64.wrap ((k : Int) - 1) = (k : Int) - 1 := by rw [IntKind.wrap_i64]; omega
            have hk0 : (0 : Int) ≤ (k : Int) := by omega
            go_wp2_with (at_builtin; refine wpList_append_lies _ rfl _ _ 35 rfl w.heap.size 3 j0 (.int .i64 0) 1 8 Try.underlying35 hj hx0 hx1 hx2 rfl (by decide) (.slice py Y.length cy) _ _ rfl (World.ownsRow.alloc HY.out _) ⟨wq.heap.size, 0, none⟩ 1 1 [.int .i64 (c : Int)] rfl rfl (cells_plain _ [_] _) (fun u hu => by simp at hu; subst hu; rfl) (by decide) (by unfold maxLen; omega) (by omega) (by simp; omega) _ rfl ?_; intro g5 c5 w5 hown5 hgrow5 hloc5 hlt5)
            have hs1q : ∀ o : Obj, (wq.alloc o).heap.size = wq.heap.size + 1 := fun o => World.size_alloc _ _
            have hlb' := hlb gl rfl
            have hg2q := (owns_lt ho (g := g2) rfl).2
            have ho5 := (ho.alloc _).kept hgrow5 (.inr (fun h => ha1 h.symm))
            have hl5 := (hlq.alloc _).kept hgrow5 (by
              rcases ha2 with h | h
              · exact .inr (fun h' => by rw [h] at h'; cases h')
              · exact .inr (fun h' => h h'.symm))
            have b5 : Below w.heap.size w w5 := (bq.alloc hszq _).grown hgrow5 (by rw [hs1q]; omega) (fun r e => (owns_lt HY.out e).1)
            have hs5 := hgrow5.size
            rw [hs1q] at hs5
            refine ⟨⟨k, rfl, by omega, ?_, ho5, hl5, ?_, .inr ?_, b5, by omega⟩, by simp [intOf]⟩
            · rw [HROW.out, List.length_append, List.length_singleton, List.map_append]
              exact hown5
            · intro h
              have h9 : g5 = g2 := by simpa [Value.ownBlock] using h
              rcases hloc5 with h' | h'
              · exact ha1 (by rw [h', h9])
              · rw [hs1q] at h'; omega
            · intro h
              have h9 : g5 = gl := by simpa [Value.ownBlock] using h
              rcases hloc5 with h' | h'
              · rcases ha2 with h2 | h2
                · rw [h2] at h'; cases h'
                · exact h2 (by rw [h', h9]; rfl)
              · rw [hs1q] at h'; omega

end Go.Proofs.Ytghpllhfgpoidaa.Dm
