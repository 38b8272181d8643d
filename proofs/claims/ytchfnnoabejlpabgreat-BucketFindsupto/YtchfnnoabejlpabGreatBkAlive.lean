/- The laws of stage 12: their own alive. -/
import Derived.Test.YtchfnnoabejlpabGreatBkC
import Derived.Test.YtchfnnoabejlpabGreatWgB
namespace Go.Proofs.YtchfnnoabejlpabGreat.Bk
open Go.Proofs.YtchfnnoabejlpabGreat.Tre
open Go Go.RowKit Go.Shelf Sl Wg

def textB : List UInt8 := [46, 98]
def textAB : List UInt8 := [97, 32, 62, 32, 98]
def nodeB : Nn := ⟨⟨#[]⟩, ⟨#[]⟩, [⟨#[98]⟩]⟩
def rulesB : List Rl := [(parseV (tksB textB)).getD [], (parseV (tksB textAB)).getD []]
theorem alive_plain : (decide ((forV rulesB (bktsV nodeB)).length = 1) && decide (lenV rulesB = 2) && (parseV (tksB textB)).isSome && (parseV (tksB textAB)).isSome && rulesB.all (fun r => decide (r.length ≤ 8) && r.all (fun s => match selB s with
  | some b => decide (b.2.size ≤ 10)
  | none => true))) = true := by decide +kernel

/-! ### what the laws use -/
set_option maxRecDepth 100000 in
theorem len_any (n₀ : Nat) (W : World) (tb : Nat) (F : Fm) (st c : Nat) (h : MapIn n₀ W tb F st c) :
    Calls Tryz.prog 13 #[.pointer (some ⟨tb, 0, none⟩)] W fun e w' => e = .returned (.int .i64 st) ∧ w' = W := by
  obtain ⟨γ, M, cnt, _, _, h3, _⟩ := h
  obtain ⟨⟨c0, c1⟩, _⟩ := blk2 h3
  clear h3
  go_enter Tryz.func13, Tryz.ntmps13
  go_wp2
  go_ret
  exact ⟨rfl, rfl⟩
/-- Blocks below the map's may turn. -/
theorem MapIn.low {n₀ : Nat} {W X : World} {tb : Nat} {F : Fm} {st c : Nat} (h : MapIn n₀ W tb F st c) (hs : W.heap.size ≤ X.heap.size) (hk : ∀ k, n₀ ≤ k → k < W.heap.size → X.heap[k]? = W.heap[k]?) : MapIn n₀ X tb F st c := by
  obtain ⟨γ, M, cnt, h1, h2, h3, h4, h5, h6, h7⟩ := h
  exact ⟨γ, M, cnt, h1, h2.kept hs (hk M h2.lo h2.lt) (fun B b e => hk B (h2.gl B b e).1 (h2.gl B b e).2), (hk tb h4 h3.lt).trans h3, h4, h5, h6, by omega⟩
theorem MapIn.few {n₀ : Nat} {W : World} {tb : Nat} {F : Fm} {st c : Nat} (h : MapIn n₀ W tb F st c) : n₀ ≤ W.heap.size := by
  obtain ⟨_, _, _, _, _, _, _, _, _, h⟩ := h
  exact h
/-- A row of numbers to be read. -/
def IntR (W : World) (v : Value) (l : List Nat) : Prop := ∃ q cap, v = .slice q l.length cap ∧ ∀ (j x : Nat), l[j]? = some x → ∃ b, q = some ⟨b, 0, none⟩ ∧ b < W.heap.size ∧ l.length ≤ cap ∧ cap ≤ 9223372036854775807 ∧ W.cell? ⟨b, j, none⟩ = some (.int .i64 x)
theorem intR_of {W : World} {base : Nat} {v : Value} {l : List Nat} (h : W.ownsRow base 3 1 v l.length (nats l)) : IntR W v l := by
  obtain ⟨q, cap, rfl⟩ := owns_form h
  refine ⟨q, cap, rfl, fun j x hj => ?_⟩
  rcases h.2 with ⟨e, hz⟩ | ⟨g, cp, cur, e, hg, hb, hn, hm, _⟩
  · rw [List.eq_nil_of_length_eq_zero hz] at hj; simp at hj
  · cases e
    have := h.cells (g := g) rfl j (.int .i64 x) (by simp [nats, hj])
    rw [addr0] at this
    exact ⟨g, rfl, (Array.getElem?_eq_some_iff.1 hb).1, hn, by unfold maxLen at hm; omega, this⟩
theorem IntR.next {W X : World} {v : Value} {l : List Nat} (h : IntR W v l) (hb : Below W.heap.size W X) : IntR X v l := by
  obtain ⟨q, cap, e, h⟩ := h
  refine ⟨q, cap, e, fun j x hj => ?_⟩
  obtain ⟨b, h1, h2, h3, h4, h5⟩ := h j x hj
  exact ⟨b, h1, Nat.lt_of_lt_of_le h2 hb.size, h3, h4, (hb.cell (p := ⟨b, j, none⟩) h2).trans h5⟩
theorem rulesB_ok : (forV rulesB (bktsV nodeB)).length = 1 ∧ lenV rulesB = 2 ∧ (∃ x, parseV (tksB textB) = some x) ∧ (∃ x, parseV (tksB textAB) = some x) ∧ ∀ r ∈ rulesB, r.length ≤ 8 ∧ ∀ s ∈ r, NmOk s := by
  have h := alive_plain
  simp only [Bool.and_eq_true, decide_eq_true_eq, List.all_eq_true] at h
  obtain ⟨⟨⟨⟨h1, h2⟩, h3⟩, h4⟩, h5⟩ := h
  refine ⟨h1, h2, Option.isSome_iff_exists.1 h3, Option.isSome_iff_exists.1 h4, fun r hr => ⟨(h5 r hr).1, fun s hs b hb => ?_⟩⟩
  have := (h5 r hr).2 s hs
  rw [hb] at this
  simp only [decide_eq_true_eq] at this
  omega
theorem rules_two {d : Nat} {W : World} {x y : Value} {a b : Rl} (hx : SelsR d W.heap.size W x a) (hy : SelsR d W.heap.size W y b) (t : TypeId) :
    RulesR d (W.alloc (.cells #[x, .slice none 0 0, y, .slice none 0 0] t)).heap.size (W.alloc (.cells #[x, .slice none 0 0, y, .slice none 0 0] t)) (.slice (some ⟨W.heap.size, 0, none⟩) 2 2) [a, b] := by
  have bl : Below W.heap.size W (W.alloc (.cells #[x, .slice none 0 0, y, .slice none 0 0] t)) := (Below.refl _ _).alloc (Nat.le_refl _) _
  have hx' := hx.next bl
  have hy' := hy.next bl
  have hb := heap_alloc_new W (.cells #[x, .slice none 0 0, y, .slice none 0 0] t)
  generalize W.alloc (.cells #[x, .slice none 0 0, y, .slice none 0 0] t) = V at *
  refine .inr ⟨W.heap.size, 0, 2, rfl, Nat.le_refl _, by decide, (Array.getElem?_eq_some_iff.1 hb).1, fun j r hr => ?_⟩
  match j, hr with
  | 0, hr =>
    obtain rfl : a = r := by simpa using hr
    refine ⟨[x, .slice none 0 0], rfl, ⟨x, _, _, _, rfl, hx'⟩, fun i u hu => ?_⟩
    match i, hu with
    | 0, hu => simp at hu; subst hu; simp [World.cell?, hb]
    | 1, hu => simp at hu; subst hu; simp [World.cell?, hb]
    | i + 2, hu => simp at hu
  | 1, hr =>
    obtain rfl : b = r := by simpa using hr
    refine ⟨[y, .slice none 0 0], rfl, ⟨y, _, _, _, rfl, hy'⟩, fun i u hu => ?_⟩
    match i, hu with
    | 0, hu => simp at hu; subst hu; simp [World.cell?, hb]
    | 1, hu => simp at hu; subst hu; simp [World.cell?, hb]
    | i + 2, hu => simp at hu
  | j + 2, hr => simp at hr

set_option maxRecDepth 100000 in
set_option maxHeartbeats 1000000 in
theorem alive_any (w : World) : Calls Tryz.prog 4 #[] w fun e w' => e = .returned (.bool true) ∧ Below w.heap.size w w' := by
  obtain ⟨p1, p2, ⟨x1, e1⟩, ⟨x2, e2⟩, p5⟩ := rulesB_ok
  have hrb : rulesB = [x1, x2] := by unfold rulesB; rw [e1, e2]; rfl
  rw [hrb] at p1 p2 p5
  have h1 := sels_any ⟨#[46, 98]⟩ w (by decide)
  rw [show (⟨#[46, 98]⟩ : ByteArray).data.toList = textB from rfl, e1] at h1
  have h2 := fun X => sels_any ⟨#[97, 32, 62, 32, 98]⟩ X (by decide)
  rw [show (⟨#[97, 32, 62, 32, 98]⟩ : ByteArray).data.toList = textAB from rfl, e2] at h2
  have HP1 : Hid ((forV [x1, x2] (bktsV nodeB)).length = 1) := p1
  have HP2 : Hid (lenV [x1, x2] = 2) := p2
  have HP5 : Hid (∀ r ∈ [x1, x2], r.length ≤ 8 ∧ ∀ s ∈ r, NmOk s) := p5
  clear p1 p2 p5 e1 e2 hrb
  go_enter Tryz.func4, Tryz.ntmps4
  go_wp2_with fail
  refine h1.mono ?_
  clear h1
  rintro e w1 ⟨l1, y1, rfl, hR1, b1, hv1⟩
  obtain rfl : l1 = x1 := by
    rcases hv1 with h | ⟨h, _⟩
    · exact (Option.some.inj h).symm
    · cases h
  replace h2 := h2 w1
  obtain ⟨q1, c1, rfl⟩ := RowT.len hR1
  have HR1 : Hid (SelsR 9 w1.heap.size w1 (.slice q1 l1.length c1) l1) := hR1
  clear hv1 hR1
  go_wp2_with fail
  refine h2.mono ?_
  clear h2
  rintro e w2 ⟨l2, y2, rfl, hR2, b2, hv2⟩
  obtain rfl : l2 = x2 := by
    rcases hv2 with h | ⟨h, _⟩
    · exact (Option.some.inj h).symm
    · cases h
  obtain ⟨q2, c2, rfl⟩ := RowT.len hR2
  have hr := rules_two (HR1.out.next b2) hR2 43
  obtain ⟨w3, hw3⟩ : ∃ w3, w2.alloc (.cells #[.slice q1 l1.length c1, .slice none 0 0, .slice q2 l2.length c2, .slice none 0 0] 43) = w3 := ⟨_, rfl⟩
  rw [hw3] at hr
  have b3 : Below w2.heap.size w2 w3 := by rw [← hw3]; exact (Below.refl _ _).alloc (Nat.le_refl _) _
  have hnew := new_any 8 _ [l1, l2] w3 hr (by simp) (fun r hr => by have := (HP5.out r hr).1; omega) (fun r hr => (HP5.out r hr).2)
  have B3 := below_next (below_next b1 b2) b3
  clear hv2 hR2 hr HR1
  go_wp2_with fail
  refine hnew.mono ?_
  clear hnew
  rintro e w4 ⟨tb, rfl, hM, b4⟩
  rw [HP2.out] at hM
  have hle := len_any _ _ _ _ _ _ hM
  have HM : Hid (MapIn w3.heap.size w4 tb (newFm [l1, l2]) 2 10000000000) := hM
  clear hM
  go_wp2_with fail
  refine hle.mono ?_
  clear hle
  rintro e w5 ⟨rfl, rfl⟩
  obtain ⟨w6, hw6⟩ : ∃ w6, w5.alloc (.cells #[.string ⟨#[98]⟩] 9) = w6 := ⟨_, rfl⟩
  have b6 : Below w5.heap.size w5 w6 := by rw [← hw6]; exact (Below.refl _ _).alloc (Nat.le_refl _) _
  have hN : NodeAt nodeB w6 (.agg #[.int .i64 0, .string ⟨#[]⟩, .string ⟨#[]⟩, .slice (some ⟨w5.heap.size, 0, none⟩) 1 1, .slice none 0 0]) := ⟨0, _, _, rfl, by rw [← hw6]; exact row_one (cs := [.string ⟨#[98]⟩]) (heap_alloc_new w5 _) rfl rfl, _, _, _, rfl⟩
  have hfor := for_any _ w6 tb [l1, l2] 2 _ (HM.out.next b6) (Nat.le_refl _) nodeB ⟨by decide, by decide, fun c hc => by
    simp only [nodeB, List.mem_singleton] at hc
    subst hc
    decide, by decide⟩ _ hN
  have B6 := below_next (below_next B3 b4) b6
  clear hN HM
  go_wp2_with fail
  refine hfor.mono ?_
  clear hfor
  rintro e w7 ⟨x, rfl, hx, b7⟩
  obtain ⟨qx, cx, rfl⟩ := owns_form hx
  have B7 := below_next B6 b7
  rw [HP1.out]
  clear hx
  go_wp2
  go_ret
  exact ⟨rfl, B7⟩

end Go.Proofs.YtchfnnoabejlpabGreat.Bk
