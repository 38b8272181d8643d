/- For every slice of strings: the law tapestrierlaw2.AtomOrder returns true and leaves its argument as it was; no condition. -/
import Derived.Test.YtbgcnmebmbjdjaaAtArgs
namespace Go.Proofs.Ytbgcnmebmbjdjaa
open Go Go.ChangeShapes Go.WideShapes Go.ChangeAt Go.RowKit

theorem beq_false {a b : ByteArray} (h : a ≠ b) : (a.toList == b.toList) = false := by
  rw [ByteArray.toList_eq, ByteArray.toList_eq, beq_eq_false_iff_ne]
  exact fun e => h (WideShapes.bytes_inj e)

/-- Which number the inner loop has found among the first k names. -/
def Found (xs : List ByteArray) (u : ByteArray) (k : Nat) (n : Int) : Prop := (u ∉ xs.take k ∧ n = -1) ∨ (u ∈ xs.take k ∧ n = xs.idxOf u)

theorem idx_of_get {xs : List ByteArray} (hn : xs.Nodup) {k : Nat} {u : ByteArray} (h : xs[k]? = some u) : xs.idxOf u = k := by
  haveI := lawBA
  obtain ⟨hk, rfl⟩ := List.getElem?_eq_some_iff.1 h
  exact hn.idxOf_getElem k hk

theorem Found.hit {xs : List ByteArray} (hn : xs.Nodup) {k : Nat} {u : ByteArray} (h : xs[k]? = some u) : Found xs u (k + 1) k :=
  .inr ⟨by rw [List.take_add_one, h]; simp, by rw [idx_of_get hn h]⟩
theorem Found.miss {xs : List ByteArray} {k : Nat} {u x : ByteArray} {n : Int} (h : Found xs u k n) (hx : xs[k]? = some x) (hne : x ≠ u) : Found xs u (k + 1) n := by
  rcases h with ⟨h1, h2⟩ | ⟨h1, h2⟩
  · refine .inl ⟨?_, h2⟩
    rw [List.take_add_one, hx]
    simp only [Option.toList_some, List.mem_append, List.mem_singleton]
    rintro (h | h)
    · exact h1 h
    · exact hne h.symm
  · exact .inr ⟨by rw [List.take_add_one]; exact List.mem_append_left _ h1, h2⟩

/-- The list that the law itself keeps holds the names; it lies apart from the table. -/
def Seen (w : World) (B : Nat) (F : List Nat) (v : Value) (xs : List ByteArray) : Prop := w.ownsRow B 9 1 v xs.length (xs.map Value.string) ∧ ∀ b, v.ownBlock = some b → b ∉ F

theorem Seen.cases {w : World} {B : Nat} {F : List Nat} {v : Value} {xs : List ByteArray} (h : Seen w B F v xs) : ∃ p cap, v = .slice p xs.length cap ∧ ∀ k u, xs[k]? = some u → ∃ g, p = some ⟨g, 0, none⟩ ∧ w.cell? ⟨g, k, none⟩ = some (.string u) ∧ xs.length ≤ cap := by
  rcases h.1.2 with ⟨rfl, h0⟩ | ⟨g, cap, cur, rfl, _, hb, hc, _⟩
  · have : xs = [] := List.length_eq_zero_iff.1 h0
    subst this
    exact ⟨_, _, rfl, fun k u hu => by cases hu⟩
  · refine ⟨_, _, rfl, fun k u hu => ⟨g, rfl, ?_, hc⟩⟩
    have := h.1.cells rfl k (.string u) (by rw [List.getElem?_map, hu]; rfl)
    rwa [show (⟨g, 0, none⟩ : Addr).add k = ⟨g, k, none⟩ from by cases k <;> simp [Addr.add]] at this

theorem Seen.below {w w' : World} {B : Nat} {F : List Nat} {v : Value} {xs : List ByteArray} (h : Seen w B F v xs) (hb : Below w.heap.size w w') : Seen w' B F v xs := ⟨row_kept h.1 (keep := fun _ => True) (.of_below hb) (fun _ _ => trivial), h.2⟩

/-- .. behind a call that gave the table a name. -/
theorem Seen.gave {w w' : World} {tb B : Nat} {F : List Nat} {v : Value} {xs zs : List ByteArray} (h : Seen w B F v xs) (hg : Gave w tb F zs w') (hB : B ≤ w.heap.size) (hF : ∀ b ∈ F, B ≤ b) :
    ∃ F', Tab w' tb F' zs ∧ (∀ b ∈ F', B ≤ b) ∧ Below B w w' ∧ Seen w' B F' v xs := by
  obtain ⟨F', t, hF', k⟩ := hg
  refine ⟨F', t, fun b hb => (hF' b hb).elim (hF b) (fun e => Nat.le_trans hB e), k.below hB (fun b hb h => by have := hF b h; omega), row_kept h.1 k h.2, fun b hb hm => ?_⟩
  rcases hF' b hm with e | e
  · exact h.2 b hb e
  · have := (h.1.lt b hb).2
    omega

/-- .. behind an append to it. -/
theorem Seen.append {w3 w4 : World} {tb B : Nat} {F : List Nat} {v v' : Value} {xs zs : List ByteArray} {u : ByteArray} {o : Obj} (h : Seen w3 B F v xs) (t : Tab w3 tb F zs) (hr : w4.ownsRow B 9 1 v' (xs.length + 1) (xs.map Value.string ++ [.string u]))
    (hg : (w3.alloc o).grownBy w4 v.ownBlock) (hloc : v'.ownBlock = v.ownBlock ∨ v'.ownBlock = some (w3.alloc o).heap.size) (hB : B ≤ w3.heap.size) : Tab w4 tb F zs ∧ Seen w4 B F v' (xs ++ [u]) ∧ Below B w3 w4 := by
  have hl : (xs ++ [u]).length = xs.length + 1 := by simp
  have hsz : (w3.alloc o).heap.size = w3.heap.size + 1 := by simp
  refine ⟨t.kept (keep := fun b => some b ≠ v.ownBlock) ((Kept.alloc w3 o).trans (Kept.of_grown hg (fun k e => by simp [e]))) (fun b hb e => h.2 b e.symm hb), ⟨by rw [hl, List.map_append]; exact hr, fun b hb hm => ?_⟩, ?_⟩
  · rcases hloc with e | e
    · exact h.2 b (e ▸ hb) hm
    · have := t.lt b hm
      rw [e, hsz] at hb
      simp at hb
      omega
  · exact ((Below.refl B w3).alloc hB o).grown hg (by omega) (fun k e => (h.1.lt k e).1)

set_option maxRecDepth 100000 in
set_option maxHeartbeats 4000000 in
theorem atomOrder_walk (w : World) (v : Value) (l : List ByteArray) (hL : StrsAt w.heap.size w v l) (hS : ∀ s ∈ l, s.size ≤ 281474976710656) :
    Calls Try.prog 5 #[v] w fun e w' => e = .returned (.bool true) ∧ Below w.heap.size w w' := by
  obtain ⟨p, cap, rfl⟩ := hL.len
  have h0 := alive_any w
  by_cases hl : l.length ≤ 80
  · have hi : ¬ (80 : Int) < l.length := by omega
    obtain ⟨i0, hi0, hz0, hz1, hz2⟩ := info_parts infoStr
    go_enter Try.func5, Try.ntmps5
    go_wp2_with fail
    refine h0.mono ?_
    rintro e w1 ⟨rfl, b1⟩
    clear h0
    have t0 := Tab.new w1
    have b2 := b1.alloc b1.size (.cells #[.slice none 0 0, .map none] 29)
    have hlt := b1.size
    go_wp2
    go_loopw [5, 6] (fun sn i wr => ∃ (k : Nat) (F : List Nat) (xs : List ByteArray), i = .int .i64 k ∧ k ≤ l.length ∧ Tab wr w1.heap.size F xs ∧ xs.length ≤ k ∧ (∀ b ∈ F, w.heap.size ≤ b) ∧ Seen wr w.heap.size F sn xs ∧ Below w.heap.size w wr) (fun _ i _ => l.length - (intOf i).toNat)
    case atStart => exact ⟨0, _, [], rfl, Nat.zero_le _, t0, Nat.le_refl _, fun b hb => (by simp at hb; omega), ⟨World.ownsRow_nil _ _ _ _, fun b hb => (by simp [Value.ownBlock] at hb)⟩, b2⟩
    case round =>
      obtain ⟨k, F, xs, rfl, hk, tr, hx, hF, hsn, br⟩ := hrel
      clear t0 b2
      obtain ⟨ps, cs, rfl, hcell⟩ := hsn.cases
      by_cases hlt' : k < l.length
      · obtain ⟨bk, off, u, rfl, _, hu, hc, _⟩ := (hL.below br).get hlt'
        have hki : (k : Int) < (l.length : Int) := by omega
        have huz := hS u hu
        go_wp2
        go_loopw [7, 8] (fun at' j wq => ∃ (k' : Nat) (a : Int) (nn : Nat), j = .int .i64 k' ∧ at' = .int .i64 a ∧ k' ≤ xs.length ∧ Found xs u k' a ∧ wq = wr.drewN nn) (fun _ j _ => xs.length - (intOf j).toNat)
        case atStart => exact ⟨0, -1, 0, rfl, rfl, Nat.zero_le _, .inl ⟨by simp, rfl⟩, rfl⟩
        case round =>
          obtain ⟨k', a, nn, rfl, rfl, hk', hfd, rfl⟩ := hrel
          by_cases hlk : k' < xs.length
          · obtain ⟨g, rfl, hcx, hcc⟩ := hcell k' xs[k'] (List.getElem?_eq_getElem hlk)
            have hxk := List.getElem?_eq_getElem hlk
            generalize xs[k'] = x at hcx hxk
            have hkx : (k' : Int) < (xs.length : Int) := by omega
            clear hcell
            by_cases hxu : x = u
            · subst hxu
              go_wp2
              go_quiet (fail)
              go_wp2
              exact ⟨⟨k' + 1, k', _, by go_num, rfl, by omega, Found.hit tr.1 hxk, rfl⟩, by simp [intOf]; omega⟩
            · have hq := beq_false hxu
              go_wp2
              go_quiet (fail)
              go_wp2
              exact ⟨⟨k' + 1, a, _, by go_num, rfl, by omega, hfd.miss hxk hxu, rfl⟩, by simp [intOf]; omega⟩
          · have hkx : ¬ (k' : Int) < (xs.length : Int) := by omega
            have bq : Below wr.heap.size wr (wr.drewN nn) := ⟨rfl, rfl, rfl, Nat.le_refl _, fun _ _ => rfl⟩
            generalize wr.drewN nn = wq at *
            have tq := tr.below bq
            have sq := hsn.below bq
            have brq := br.trans (bq.mono br.size)
            have hcq := (bq.cell (World.block_lt_of_cell? _ _ hc)).trans hc
            rw [Found, List.take_of_length_le (by omega)] at hfd
            clear tr hsn hcell bq br hc
            rcases hfd with ⟨hno, rfl⟩ | ⟨hyes, rfl⟩
            · have hc1 := Find_no wq w1.heap.size F xs u tq hno huz (by omega)
              go_wp2_with fail
              refine hc1.mono ?_
              rintro e w2 ⟨rfl, bb2⟩
              clear hc1
              have t2 := tq.below bb2
              have s2 := sq.below bb2
              have br2 := brq.trans (bb2.mono brq.size)
              have hc2 := (bb2.cell (World.block_lt_of_cell? _ _ hcq)).trans hcq
              have hc1 := Of_no w2 w1.heap.size F xs u t2 hno huz (by omega)
              clear tq sq brq bb2
              go_wp2_with fail
              refine hc1.mono ?_
              rintro e w3 ⟨rfl, gg⟩
              clear hc1
              obtain ⟨F', t3, hF', bb3, s3⟩ := s2.gave gg br2.size hF
              have br3 := br2.trans bb3
              have hc3 := (bb3.cell ‹bk < _›).trans hc2
              clear t2 s2 gg hc2 hcq bb3 br2
              have hnum : (xs.length : Int) + 1 - 1 = xs.length := by omega
              go_wp2_with (first
                | (at_builtin; refine wpList_append_own_at _ rfl _ _ 22 rfl w.heap.size 9 i0 (.string ⟨#[]⟩) 1 16 Try.underlying22 hi0 hz0 hz1 hz2 rfl (by decide) _ _ _ rfl (s3.1.alloc _) ⟨w3.heap.size, 0, none⟩ 1 1 [.string u] rfl rfl (cell_one_new _ _ _) (by simp [Value.oneCell']) (by unfold maxLen; omega) (by omega) (by have := br3.size; simp; omega) ?_; intro v' w4 hown' hgrow hnil hloc; obtain ⟨t4, s4, bb4⟩ := s3.append t3 hown' hgrow hloc br3.size; obtain ⟨g', cap', rfl⟩ := shape_of hown'; have br4 := br3.trans bb4)
                | go_in)
              exact ⟨⟨k + 1, F', xs ++ [u], by go_num, by omega, t4, by simp; omega, hF', s4, br4⟩, by simp [intOf]; omega⟩
            · have hc1 := Find_yes wq w1.heap.size F xs u tq hyes (by omega)
              have hpos : ¬ ((xs.idxOf u : Nat) : Int) < 0 := by omega
              go_wp2_with fail
              refine hc1.mono ?_
              rintro e w2 ⟨rfl, bb2⟩
              clear hc1
              have t2 := tq.below bb2
              have s2 := sq.below bb2
              have br2 := brq.trans (bb2.mono brq.size)
              have hc2 := (bb2.cell (World.block_lt_of_cell? _ _ hcq)).trans hcq
              have hc1 := Of_yes w2 w1.heap.size F xs u t2 hyes (by omega)
              clear tq sq brq bb2
              go_wp2_with fail
              refine hc1.mono ?_
              rintro e w3 ⟨rfl, bb3⟩
              clear hc1
              have t3 := t2.below bb3
              have s3 := s2.below bb3
              have br3 := br2.trans (bb3.mono br2.size)
              clear t2 s2 br2 bb3 hcq hc2
              generalize xs.idxOf u = m at *
              go_wp2
              exact ⟨⟨k + 1, F, xs, by go_num, by omega, t3, by omega, hF, s3, br3⟩, by simp [intOf]; omega⟩
      · have hki : ¬ (k : Int) < (l.length : Int) := by omega
        go_wp2
        go_loopw [13] (fun j wq => ∃ k' : Nat, j = .int .i64 k' ∧ k' ≤ xs.length ∧ Below wr.heap.size wr wq) (fun j _ => xs.length - (intOf j).toNat)
        case atStart => exact ⟨0, rfl, Nat.zero_le _, Below.refl _ _⟩
        case round =>
          obtain ⟨k', rfl, hk', bq⟩ := hrel
          have tq := tr.below bq
          by_cases hlk : k' < xs.length
          · obtain ⟨g, rfl, hcx, hcc⟩ := hcell k' xs[k'] (List.getElem?_eq_getElem hlk)
            have hxk := List.getElem?_eq_getElem hlk
            generalize xs[k'] = x at hcx hxk
            have hkx : (k' : Int) < (xs.length : Int) := by omega
            have hc1 := Name_yes _ w1.heap.size F xs k' x tq hxk (by omega)
            clear hcell
            go_wp2_with fail
            refine hc1.mono ?_
            rintro e w2 ⟨rfl, bb2⟩
            clear hc1
            have bq2 := bq.trans (bb2.mono bq.size)
            have hcx2 := (bq2.cell (World.block_lt_of_cell? _ _ hcx)).trans hcx
            clear bq tq bb2 hcx hL hsn
            go_wp2
            exact ⟨⟨k' + 1, by go_num, by omega, bq2⟩, by simp [intOf]; omega⟩
          · have hkx : ¬ (k' : Int) < (xs.length : Int) := by omega
            have hc1 := Len_any _ w1.heap.size F xs tq
            go_wp2_with fail
            refine hc1.mono ?_
            rintro e w2 ⟨rfl, bb2⟩
            clear hc1
            have bq2 := br.trans ((bq.trans (bb2.mono bq.size)).mono br.size)
            clear bq tq bb2 hL hsn hcell tr
            go_wp2
            go_ret
            exact ⟨rfl, bq2⟩
  · have hi : (80 : Int) < l.length := by omega
    go_enter Try.func5, Try.ntmps5
    go_wp2_with fail
    refine h0.mono ?_
    rintro e w1 ⟨rfl, b1⟩
    go_wp2
    go_ret
    exact ⟨rfl, b1⟩


set_option maxRecDepth 100000 in
theorem atomOrder_lifted (os : Os) (started : os.Started) (H : Type) (enc : TypeId × Value → H) :
    ReturnsInHanded {} Try.checked os 5 .any (Rows.atomOrderSpec.pre6 enc Try.prog Try.f5 Rows.atomOrderRow.domain false) (Rows.atomOrderSpec.post enc Try.prog Try.f5 false true false false) := by
  refine returnsInHanded_of_change_sized (C := Try.checked) ownNone started (by kernel_rfl) Try.func5
    (ChangeSpec.witness6 (enc := enc) (C := Try.checked) false ⟨#[], #[.slice none 0 0], []⟩ 8 (by kernel_rfl) (by kernel_rfl) (by kernel_rfl) (by kernel_rfl)) ?_
  intro W base args ds gs before hval hW _ hsz0 _
  have hW' := hW
  obtain ⟨p, q, hA0, hV, rfl, hfz, hnd⟩ := hW
  have hA : DataW.TrodAll enc Try.prog W 0 (fun _ => true) true Try.f5.params.toList args.toList ds p := hA0
  rw [Try.params5] at hA hval hsz0
  obtain ⟨v0, vs0, d0, ds0, p0, q0, hargs, rfl, rfl, h0, r0⟩ := trodAll_cons hA
  obtain ⟨rfl, rfl, rfl⟩ := trodAll_nil r0
  obtain rfl : args = #[v0] := by cases args; simp_all
  obtain ⟨rfl, rfl⟩ := trodVars_none hV
  have hsz := List.all_eq_true.1 hsz0
  obtain ⟨a0, len0, cap0, rfl⟩ := okWide_slice Try.underlying22 (hval 0 22 v0 rfl rfl)
  have k0 := h0
  have lt0 : ∀ x ∈ p0, x.block < W.heap.size := by obtain ⟨m, hm⟩ := k0; exact DataW.trod_lt m _ _ _ hm
  obtain ⟨z0, w0, y0⟩ := strsAt_of_reads k0 (fun n hn => by simpa using hsz n (DataW.weights_mem_each (j := 0) rfl rfl n hn))
  clear hA0
  refine (atomOrder_walk W _ z0 w0 y0).mono fun e W' ⟨he, bel⟩ => ?_
  subst he
  exact ⟨_, rfl, _, _, _, [], _, [], hW', trodAll_mk1 (shut_bool Try.underlying4 _), (trodAll_cons_mk (Below.trod laidOut (by kernel_rfl) (of_decide_eq_true (by kernel_rfl)) k0 bel lt0) trodAll_mk0), rfl, bel.frame _, fun h => by cases h⟩

theorem atomOrder_said : Rows.AtomOrderSaid :=
  OpenClaim.holds_of_wide 5 Try.f5 rfl rfl rfl rfl rfl rfl rfl ⟨rfl, rfl, rfl, rfl, rfl⟩ rfl rfl rfl rfl rfl (by kernel_rfl) Try.func5 (by kernel_rfl)
    (of_decide_eq_true (by kernel_rfl)) (by unfold Func.isWrapper; first | (rw [if_pos (by decide +kernel)]; kernel_rfl) | (rw [if_neg (by decide +kernel)]; exact ⟨rfl, rfl⟩))
    (fun os started H enc _ => atomOrder_lifted os started H enc)
#print axioms atomOrder_said

end Go.Proofs.Ytbgcnmebmbjdjaa
