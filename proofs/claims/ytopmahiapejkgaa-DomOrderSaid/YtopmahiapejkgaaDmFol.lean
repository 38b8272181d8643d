/- package dom: following at every element. -/
import Derived.Test.YtopmahiapejkgaaDmUp
namespace Go.Proofs.Ytopmahiapejkgaa.Dm
open Go Go.RowKit Go.Shelf
attribute [local go_sem] Oper.semAt_some

theorem egUp : ∀ args w, (callFunc 41 args).run Try.prog w = .ok (.enter 41 args) w := enters_of Try.func41 (by kernel_rfl) rfl
theorem find_no {p : Nat → Bool} {l : List Nat} (h : ∀ x ∈ l, p x = false) : l.find? p = none := by
  rw [List.find?_eq_none]
  intro x hx e
  rw [h x hx] at e
  cases e
theorem find_at {p : Nat → Bool} : ∀ {a : List Nat} {x : Nat} {b : List Nat}, (∀ y ∈ a, p y = false) → p x = true → (a ++ x :: b).find? p = some x
  | [], x, b, _, hx => by rw [List.nil_append, List.find?_cons, hx]
  | y :: a, x, b, h, hx => by
    rw [List.cons_append, List.find?_cons, h y (List.mem_cons_self ..)]
    exact find_at (fun z hz => h z (List.mem_cons_of_mem _ hz)) hx

set_option maxRecDepth 100000 in
set_option maxHeartbeats 4000000 in
theorem following_in (n : Nat) (hn : 1 ≤ n) (b tb g cap : Nat) (qs : List Em) (k : Nat) (w : World) (hT : Tr b w tb g cap qs) (hO : TreeOk (qs.map Em.e)) (hl : qs.length ≤ 4096) (hk : k < qs.length) :
    CallsIn Fence.wide n Try.prog 36 #[.pointer (some ⟨tb, 0, none⟩), .int .i64 k] w fun e w' => e = .returned (.int .i64 (folV (qs.map Em.e) k)) ∧ Below w.heap.size w w' := by
  obtain ⟨q, hq⟩ : ∃ q, qs[k]? = some q := ⟨_, List.getElem?_eq_getElem hk⟩
  have hch : chOf (qs.map Em.e) k = q.e.ch := children_at (map_at hq)
  have HT : Hid (Tr b w tb g cap qs) := hT
  have HO : Hid (TreeOk (qs.map Em.e)) := hO
  obtain ⟨w2, hw2⟩ : ∃ w2, (w.alloc (.cells #[.pointer (some ⟨tb, 0, none⟩)] 32)).alloc (.cells #[.int .i64 0] 3) = w2 := ⟨_, rfl⟩
  have hs2 : w2.heap.size = w.heap.size + 2 := by rw [← hw2]; simp
  have hB2 : Below w.heap.size w w2 := by rw [← hw2]; exact ((Below.refl _ w).alloc (Nat.le_refl _) _).alloc (by simp) _
  have bT2 : Boxed w2 w.heap.size 32 (.pointer (some ⟨tb, 0, none⟩)) := by rw [← hw2]; exact (Boxed.new _ _ _).alloc _
  have bR2 : Boxed w2 (w.heap.size + 1) 3 (.int .i64 0) := by
    rw [← hw2]
    have := Boxed.new (w.alloc (.cells #[.pointer (some ⟨tb, 0, none⟩)] 32)) 3 (.int .i64 0)
    rwa [World.size_alloc] at this
  have hT2 := hT.next hB2
  have c0 := (blk1 hT2.blk).1
  obtain ⟨_, _, _, _, _, _, _, x7⟩ := hT2.get8 hq
  have hrm := hT2.room
  unfold maxLen at hrm
  have hki : (k : Int) < (qs.length : Int) := by omega
  have hI := hT2.chs k q hq
  have hat := hI.at
  unfold IntRow at hI
  rw [chI_len] at hI
  obtain ⟨ph, ch, hv⟩ := owns_form hI
  rw [hv] at x7 hat
  have cT2 := bT2.cell
  have cR2 := bR2.cell
  have fR2 := bR2.frozen
  clear hT hO hT2 hI hv
  refine callsIn_of_wp_marks Try.func36 rfl trivial ?_ rfl
  simp only [Try.ntmps36, List.size_toArray, List.length_cons, List.length_nil, Nat.reduceAdd, Nat.reduceSub, Array.replicate_succ, Array.replicate_zero, List.push_toArray, List.append_toArray, List.nil_append, List.cons_append]
  cases hc : q.e.ch with
  | cons c r =>
    have hF : folV (qs.map Em.e) k = (c : Int) := by unfold folV; rw [hch, hc]
    rw [hF]
    rw [hc] at hat x7
    obtain ⟨bk, off, rfl, _, hcap, hmx, hcell⟩ := hat.get (k := 0) (t := (c : Int)) rfl
    have y0 := hcell 0 _ rfl
    simp only [Nat.mul_one, Nat.add_zero] at y0
    have hpos : (0 : Int) < (((c :: r).length : Nat) : Int) := by simp
    generalize (c :: r).length = m at *
    have g2 := grownBy_setCell' w2 (w.heap.size + 1) (.int .i64 (c : Int))
    have b4 := bR2.set (.int .i64 (c : Int))
    have hb4 := hB2.grown g2 hB2.size (fun r e => by cases e; omega)
    clear hat hcell hF hch hc hq HT HO
    gi_wp2
    refine ⟨_, results_int rfl _ _ (w.heap.size + 1) _ rfl b4.cell, rfl, hb4⟩
  | nil =>
    have hF : folV (qs.map Em.e) k = upV (qs.map Em.e) k := by unfold folV; rw [hch, hc]
    rw [hF]
    unfold upV
    obtain ⟨T, hU⟩ : ∃ T, (((ups (qs.map Em.e) k).find? (hasNext (qs.map Em.e))).map fun x => sibV (qs.map Em.e) x 1).getD (-1) = T := ⟨_, rfl⟩
    rw [hU]
    rw [hc] at x7
    clear hF hch hat hc hq
    gi_wp2_with fail
    refine ⟨trivial, ?_⟩
    clear hw2 cT2 x7 c0
    have hth := fun m => upward_in m tb k w2
    rw [hs2] at hth
    refine (hth _).mono ?_
    clear hth
    rintro e w4 ⟨rfl, hw5⟩
    obtain ⟨w5, rfl⟩ : ∃ w5, w5 = w4 := ⟨_, rfl⟩
    have hs5 : w5.heap.size = w.heap.size + 4 := by rw [hw5]; simp; omega
    have hB5 : Below w2.heap.size w2 w5 := by rw [hw5]; exact ((Below.refl _ w2).alloc (Nat.le_refl _) _).alloc (by simp) _
    have bT5 := bT2.kept (grown_below hB5 none) (by simp)
    have bR5 := bR2.kept (grown_below hB5 none) (by simp)
    have bV5 : Boxed w5 (w.heap.size + 2) 32 (.pointer (some ⟨tb, 0, none⟩)) := by
      rw [hw5]
      have := (Boxed.new w2 32 (.pointer (some ⟨tb, 0, none⟩))).alloc (.cells #[.int .i64 k] 3)
      rwa [hs2] at this
    have bI5 : Boxed w5 (w.heap.size + 3) 3 (.int .i64 k) := by
      rw [hw5]
      have := Boxed.new (w2.alloc (.cells #[.pointer (some ⟨tb, 0, none⟩)] 32)) 3 (.int .i64 k)
      rwa [World.size_alloc, hs2] at this
    have hBB : Below w.heap.size w w5 := hB2.trans (hB5.mono hB2.size)
    clear hw5 hB5 bT2 bR2 hB2 hs2 cR2 fR2
    have hseq := upward_seq (n - 1) (w.heap.size + 3) (w.heap.size + 2) (w.heap.size + 4) b tb g cap qs w HT.out HO.out hl k hk w5 (by omega) (by omega) (by omega) (by omega) hBB bI5.cell bV5.cell
    gi_wp2_with fail
    have hmem := ups_mem HO.out k k (Nat.le_refl _) (by rw [List.length_map]; exact hk)
    rw [List.length_map] at hmem
    refine wpIn_rangeFunc_Z rfl hn (gf := 41) (lb := #[.pointer (some ⟨w.heap.size + 3, 0, none⟩), .pointer (some ⟨w.heap.size + 2, 0, none⟩)]) rfl trivial egUp hseq (by omega) (Below.refl _ _) (fun _ => rfl)
      (fun pre X => (∀ x ∈ pre, hasNext (qs.map Em.e) x = false) ∧ Boxed X w.heap.size 32 (.pointer (some ⟨tb, 0, none⟩)) ∧ Boxed X (w.heap.size + 1) 3 (.int .i64 0) ∧ Below w.heap.size w X)
      (fun _ X => Boxed X (w.heap.size + 1) 3 (.int .i64 T) ∧ Below w.heap.size w X)
      ?hI ?hIx ⟨fun _ h => (by cases h), bT5, bR5, hBB⟩
      (fun x => { tmps := #[.pointer (some ⟨tb, 0, none⟩), .int .i64 k, .pointer (some ⟨w.heap.size, 0, none⟩), undef, .pointer (some ⟨w.heap.size + 1, 0, none⟩), .slice ph 0 ch, .int .i64 x, undef, .pointer (some ⟨tb, 0, none⟩), .pointer (some ⟨tb, 0, none⟩), .pointer (some ⟨tb, 0, none⟩), .slice (some ⟨g, 0, none⟩) qs.length cap, .int .i64 k, .pointer (some ⟨g, k * 8, none⟩), .pointer (some ⟨g, k * 8 + 7, none⟩), .slice ph 0 ch, .slice ph 0 ch, .int .i64 0, .bool false, undef, undef, undef, .pointer (some ⟨tb, 0, none⟩), .int .i64 k, .func (.func 41) #[] #[.pointer (some ⟨w.heap.size + 3, 0, none⟩), .pointer (some ⟨w.heap.size + 2, 0, none⟩)], .int .i64 x, undef, undef, undef, undef, undef, undef], defers := [] }) ?assign ?body ?done ?stop
    case hI =>
      rintro s X Y row ⟨h1, h2, h3, h5⟩ hg hr
      have far : ∀ b, b < w.heap.size + 4 → some b ≠ row := fun b hb e => by have := hr b e.symm; omega
      exact ⟨h1, h2.kept hg (far _ (by omega)), h3.kept hg (far _ (by omega)), h5.grown hg h5.size (fun r e => by have := hr r e; omega)⟩
    case hIx =>
      rintro s X Y row ⟨h4, h5⟩ hg hr
      have far : ∀ b, b < w.heap.size + 4 → some b ≠ row := fun b hb e => by have := hr b e.symm; omega
      exact ⟨h4.kept hg (far _ (by omega)), h5.grown hg h5.size (fun r e => by have := hr r e; omega)⟩
    case assign =>
      intro l x X K hK
      gi_wp2
      exact hK
    case body =>
      rintro l' pre x X ⟨h1, h2, h4, h5⟩ ⟨rest, hok⟩ hsz
      have hxm : x < qs.length := hmem x (by rw [← hok]; simp)
      have c2 := h2.cell
      have c4 := h4.cell
      have f4 := h4.frozen
      have hsib := sibling_any b tb g cap qs x 1 X (HT.out.next h5) HO.out hl hxm (.inl rfl)
      cases hB : hasNext (qs.map Em.e) x with
      | true =>
        have hTx : sibV (qs.map Em.e) x 1 = T := by rw [← hU, ← hok, find_at (fun y hy => h1 y hy) hB]; rfl
        have hne : (T != -1) = true := by rw [← hTx]; exact hB
        rw [hTx] at hsib
        have FIN : Hid (KeepsIn 0 w5.heap.size (w5.heap.size + 2 + 0) X (X.setCell ⟨w.heap.size + 1, 0, none⟩ (.int .i64 T)) ∧ Boxed (X.setCell ⟨w.heap.size + 1, 0, none⟩ (.int .i64 T)) (w.heap.size + 1) 3 (.int .i64 T) ∧ Below w.heap.size w (X.setCell ⟨w.heap.size + 1, 0, none⟩ (.int .i64 T))) := by
          have g2 := grownBy_setCell' X (w.heap.size + 1) (.int .i64 T)
          have hs1 := h5.size
          refine ⟨⟨(Below.refl 0 X).grown g2 (Nat.zero_le _) (fun r e => Nat.zero_le _), fun r r1 r2 => ?_⟩, h4.set _, h5.grown g2 h5.size (fun r e => by cases e; omega)⟩
          exact g2.block r (by omega) (by simp; omega)
        clear hseq hU hTx hok h1 hmem hB
        gi_wp2_with fail
        refine ⟨trivial, fun h => (by cases h), ?_⟩
        refine (CallsIn.inRound l' (callsIn_wide.2 hsib)).mono ?_
        clear hsib
        rintro e w' ⟨rfl, rfl⟩
        gi_wp2
        exact FIN.out
      | false =>
        have hTx : sibV (qs.map Em.e) x 1 = -1 := by simpa [hasNext] using hB
        rw [hTx] at hsib
        have FIN : Hid (KeepsIn (w.heap.size + 4) w5.heap.size (w5.heap.size + 2 + 0) X X ∧ (∀ y ∈ pre ++ [x], hasNext (qs.map Em.e) y = false) ∧ Boxed X w.heap.size 32 (.pointer (some ⟨tb, 0, none⟩)) ∧ Boxed X (w.heap.size + 1) 3 (.int .i64 0) ∧ Below w.heap.size w X) := by
          refine ⟨KeepsIn.refl _ _ _ _, fun y hy => ?_, h2, h4, h5⟩
          rcases List.mem_append.1 hy with hy | hy
          · exact h1 y hy
          · obtain rfl : y = x := by simpa using hy
            exact hB
        clear hseq hU hTx hok h1 hmem hB
        gi_wp2_with fail
        refine ⟨trivial, fun h => (by cases h), ?_⟩
        refine (CallsIn.inRound l' (callsIn_wide.2 hsib)).mono ?_
        clear hsib
        rintro e w' ⟨rfl, rfl⟩
        gi_wp2
        exact FIN.out
    case done =>
      rintro ys X rfl ⟨h1, h2, h4, h5⟩ hK
      have hTl : T = -1 := by rw [← hU, find_no (fun y hy => h1 y hy)]; rfl
      have c4 := h4.cell
      have f4 := h4.frozen
      have g2 := grownBy_setCell' X (w.heap.size + 1) (.int .i64 (-1))
      have hK2 := (g2.block w5.heap.size (Array.getElem?_eq_some_iff.1 hK).1 (by simp; omega)).trans hK
      have b4 := h4.set (.int .i64 (-1))
      have hb4 := h5.grown g2 h5.size (fun r e => by cases e; omega)
      clear hseq hU hmem
      gi_wp2
      refine ⟨by simp, .inl ⟨_, _, rfl, run_takeDeferred hK2, ?_⟩⟩
      have g3 := grownBy_putObj' (X.setCell ⟨w.heap.size + 1, 0, none⟩ (.int .i64 (-1))) w5.heap.size (.deferred none)
      have b5 := b4.kept g3 (by simp; omega)
      refine ⟨_, results_int rfl _ _ (w.heap.size + 1) _ rfl b5.cell, by rw [hTl], hb4.grown g3 (by have := hb4.size; omega) (fun r e => by cases e; omega)⟩
    case stop =>
      rintro pre X _ ⟨h4, h5⟩ hK
      clear hseq hU
      gi_wp2
      refine ⟨by simp, .inl ⟨_, _, rfl, run_takeDeferred hK, ?_⟩⟩
      have g3 := grownBy_putObj' X w5.heap.size (.deferred none)
      have b5 := h4.kept g3 (by simp; omega)
      exact ⟨_, results_int rfl _ _ (w.heap.size + 1) _ rfl b5.cell, rfl, h5.grown g3 h5.size (fun r e => by cases e; omega)⟩

end Go.Proofs.Ytopmahiapejkgaa.Dm
