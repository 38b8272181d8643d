/- Selectors read less deep; what they weigh then; how deep lists stand, in plain words. -/
import Derived.Test.YtcicppadjipndaaGreatWgMem
import Derived.Test.YtcicppadjipndaaGreatWgH
namespace Go.Proofs.YtcicppadjipndaaGreat.Wg
open Go.Proofs.YtcicppadjipndaaGreat.Tre
open Go Go.RowKit Sl

/-- A list of selectors, its lists cut so deep. -/
def cutL : Nat → List Sel → List Sel
  | 0, _ => []
  | d + 1, l => l.map (fun s => s.map (fun p => (p.1, Cp.mk p.2.tag p.2.ids p.2.classes p.2.attrs (p.2.pss.map (fun q => Ps.mk q.kind q.a q.b (cutL d q.list))))))
def cutP (d : Nat) (q : Ps) : Ps := .mk q.kind q.a q.b (cutL d q.list)
def cutC (d : Nat) (c : Cp) : Cp := .mk c.tag c.ids c.classes c.attrs (c.pss.map (cutP d))
def cutS (d : Nat) (s : Sel) : Sel := s.map (fun p => (p.1, cutC d p.2))
theorem cutL_succ (d : Nat) (l : List Sel) : cutL (d + 1) l = l.map (cutS d) := rfl
theorem RowT.map {α β : Type} {sz : Nat} {T : List Value → α → Prop} {T' : List Value → β → Prop} {n : Nat} {W : World} {v : Value} {l : List α} (h : RowT sz T n W v l) (f : α → β) (hT : ∀ c x, T c x → T' c (f x)) : RowT sz T' n W v (l.map f) := by
  rcases h with ⟨rfl, h⟩ | ⟨b, off, cap, rfl, h1, h2, h3, h4⟩
  · exact .inl ⟨rfl, h⟩
  · refine .inr ⟨b, off, cap, by rw [List.length_map], by rw [List.length_map]; exact h1, h2, h3, fun j x hx => ?_⟩
    rw [List.getElem?_map] at hx
    obtain ⟨y, hy, rfl⟩ := Option.map_eq_some_iff.1 hx
    obtain ⟨c, hc, ht, hcell⟩ := h4 j y hy
    exact ⟨c, hc, hT _ _ ht, hcell⟩
theorem parts_cut {d n : Nat} {W : World} (ih : ∀ v l, SelsR (d + 1) n W v l → SelsR d n W v (cutL d l)) {v : Value} {s : Sel} (h : PartsR (d + 1) n W v s) : PartsR d n W v (cutS d s) := by
  refine RowT.map h _ (fun c p hp => ?_)
  obtain ⟨c', rfl, i, k, a, ps, rfl, g1, g2, g3, g4⟩ := hp
  exact ⟨_, rfl, i, k, a, ps, rfl, g1, g2, g3, RowT.map g4 (cutP d) (fun c q ⟨x, e, hx⟩ => ⟨x, e, ih x _ hx⟩)⟩
theorem sels_cut : ∀ (d : Nat) {n : Nat} {W : World} (v : Value) (l : List Sel), SelsR (d + 1) n W v l → SelsR d n W v (cutL d l)
  | 0, _, _, _, _, h => by
    obtain ⟨p, c, e⟩ := RowT.len h
    exact ⟨rfl, _, _, _, e⟩
  | d + 1, _, _, _, _, h => RowT.map h (cutS d) (fun c s ⟨x, e, hx⟩ => ⟨x, e, parts_cut (fun v l h => sels_cut d v l h) hx⟩)
theorem PartsR.cut {d n : Nat} {W : World} {v : Value} {s : Sel} (h : PartsR (d + 1) n W v s) : PartsR d n W v (cutS d s) := parts_cut (fun v l h => sels_cut d v l h) h

/-! ### weights -/
theorem sums_cut {d : Nat} (G : List Sel → Sm) (hG : ∀ l, G (cutL d l) = G l) (s : Sel) : sumsV G (cutS d s) = sumsV G s := by
  unfold sumsV cutS
  rw [List.foldl_map]
  congr 1
  funext o p
  show compS G o (cutC d p.2) = compS G o p.2
  unfold compS cutC
  simp only [Cp.pss]
  rw [List.foldl_map]
  have h1 : (fun o q => withV o (psV G (cutP d q))) = (fun o q => withV o (psV G q)) := by
    funext o q
    have : psV G (cutP d q) = psV G q := by
      show (if q.kind = 7 ∨ q.kind = 8 then G (cutL d q.list) else ⟨0, 1, 0⟩) = if q.kind = 7 ∨ q.kind = 8 then G q.list else ⟨0, 1, 0⟩
      rw [hG]
    rw [this]
  rw [h1]
  rfl
theorem great_cut : ∀ (d : Nat) (l : List Sel), greatV d (cutL d l) = greatV d l
  | 0, _ => rfl
  | d + 1, l => by
    rw [cutL_succ]
    show (l.map (cutS d)).foldl _ _ = l.foldl _ _
    rw [List.foldl_map]
    congr 1
    funext o s
    rw [sums_cut (greatV d) (great_cut d)]
theorem sums8_cut (s : Sel) : sumsV (greatV 8) (cutS 8 s) = sumsV (greatV 8) s := sums_cut _ (great_cut 8) s
theorem sums7_cut (s : Sel) : sumsV (greatV 7) (cutS 7 s) = sumsV (greatV 7) s := sums_cut _ (great_cut 7) s
theorem great_more {d e : Nat} (h : ∀ l, greatV e (cutL d l) = greatV e l) : ∀ s, sumsV (greatV e) (cutS d s) = sumsV (greatV e) s := fun s => sums_cut _ h s

/-! ### how deep -/
def isList (p : Ps) : Bool := decide (p.kind = 7) || decide (p.kind = 8)
/-- Do lists stand more than so deep in a selector, or has one more than fifty parts? -/
def deepS : Nat → Sel → Bool
  | 0, s => decide (50 < s.length) || s.any (fun p => p.2.pss.any isList)
  | f + 1, s => decide (50 < s.length) || s.any (fun p => p.2.pss.any (fun q => isList q && q.list.any (deepS f)))
def deepC (f : Nat) (c : Cp) : Bool := match f with
  | 0 => c.pss.any isList
  | f + 1 => c.pss.any (fun q => isList q && q.list.any (deepS f))
theorem deepS_eq (f : Nat) (s : Sel) : deepS f s = (decide (50 < s.length) || s.any (fun p => deepC f p.2)) := by
  cases f <;> rfl
theorem deepC_cut : ∀ (f : Nat) (c : Cp), deepC f (cutC f c) = deepC f c
  | 0, c => by
    show (c.pss.map (cutP 0)).any isList = c.pss.any isList
    rw [List.any_map]; rfl
  | f + 1, c => by
    show (c.pss.map (cutP (f + 1))).any (fun q => isList q && q.list.any (deepS f)) = c.pss.any (fun q => isList q && q.list.any (deepS f))
    rw [List.any_map]
    congr 1
    funext q
    show (isList (cutP (f + 1) q) && (cutL (f + 1) q.list).any (deepS f)) = _
    have h1 : isList (cutP (f + 1) q) = isList q := rfl
    rw [h1, cutL_succ, List.any_map]
    congr 2
    funext s
    show deepS f (cutS f s) = deepS f s
    rw [deepS_eq, deepS_eq]
    unfold cutS
    rw [List.length_map, List.any_map]
    congr 2
    funext p
    exact deepC_cut f p.2
theorem deepS_cut (f : Nat) (s : Sel) : deepS f (cutS f s) = deepS f s := by
  rw [deepS_eq, deepS_eq]
  unfold cutS
  rw [List.length_map, List.any_map]
  congr 2
  funext p
  exact deepC_cut f p.2
theorem psV_same {G G' : List Sel → Sm} {q : Ps} (h : isList q = true → G q.list = G' q.list) : psV G q = psV G' q := by
  unfold psV
  split
  · rename_i hk
    refine h ?_
    unfold isList
    rcases hk with hk | hk <;> simp [hk]
  · rfl
theorem sumsV_same {G G' : List Sel → Sm} : ∀ (s : Sel), (∀ p ∈ s, ∀ q ∈ p.2.pss, isList q = true → G q.list = G' q.list) → sumsV G s = sumsV G' s := by
  have key : ∀ (l : List Ps) (o : Sm), (∀ q ∈ l, isList q = true → G q.list = G' q.list) → l.foldl (fun o p => withV o (psV G p)) o = l.foldl (fun o p => withV o (psV G' p)) o := by
    intro l
    induction l with
    | nil => intro o _; rfl
    | cons q l ih =>
      intro o h
      rw [List.foldl_cons, List.foldl_cons, psV_same (h q (List.mem_cons_self ..))]
      exact ih _ (fun z hz => h z (List.mem_cons_of_mem _ hz))
  have key2 : ∀ (s : Sel) (o : Sm), (∀ p ∈ s, ∀ q ∈ p.2.pss, isList q = true → G q.list = G' q.list) → s.foldl (fun o p => compS G o p.2) o = s.foldl (fun o p => compS G' o p.2) o := by
    intro s
    induction s with
    | nil => intro o _; rfl
    | cons p s ih =>
      intro o h
      rw [List.foldl_cons, List.foldl_cons]
      have : compS G o p.2 = compS G' o p.2 := key _ _ (h p (List.mem_cons_self ..))
      rw [this]
      exact ih _ (fun z hz => h z (List.mem_cons_of_mem _ hz))
  intro s h
  exact key2 s _ h
theorem sums_flat : ∀ (f : Nat) (s : Sel), deepS f s = false → sumsV (greatV (f + 1)) s = sumsV (greatV f) s
  | 0, s, h => by
    refine sumsV_same s (fun p hp q hq hl => ?_)
    rw [deepS_eq, Bool.or_eq_false_iff] at h
    have h1 := List.any_eq_false.1 h.2 p hp
    have h2 : p.2.pss.any isList = true := List.any_eq_true.2 ⟨q, hq, hl⟩
    exact absurd h2 h1
  | f + 1, s, h => by
    refine sumsV_same s (fun p hp q hq hl => ?_)
    rw [deepS_eq, Bool.or_eq_false_iff] at h
    have h1 := List.any_eq_false.1 h.2 p hp
    have h2 : ∀ z ∈ q.list, deepS f z = false := fun z hz => by
      cases e : deepS f z with
      | false => rfl
      | true => exact absurd (List.any_eq_true.2 ⟨q, hq, by rw [hl]; exact List.any_eq_true.2 ⟨z, hz, e⟩⟩ : deepC (f + 1) p.2 = true) h1
    have key : ∀ (l : List Sel) (o : Sm), (∀ z ∈ l, deepS f z = false) → l.foldl (fun o s => heavier o (sumsV (greatV (f + 1)) s)) o = l.foldl (fun o s => heavier o (sumsV (greatV f) s)) o := by
      intro l
      induction l with
      | nil => intro o _; rfl
      | cons z l ih =>
        intro o h
        rw [List.foldl_cons, List.foldl_cons, sums_flat f z (h z (List.mem_cons_self ..))]
        exact ih _ (fun y hy => h y (List.mem_cons_of_mem _ hy))
    exact key q.list Sm.zero h2

end Go.Proofs.YtcicppadjipndaaGreat.Wg

/- The document's own Deep and DeepSel (tapestrierref9), at every selector. -/
namespace Go.Proofs.YtcicppadjipndaaGreat.Wg
open Go.Proofs.YtcicppadjipndaaGreat.Tre
open Go Go.RowKit Sl

def DeepSOK (f : Nat) : Prop := ∀ (v : Value) (s : Sel) (w : World), PartsR f w.heap.size w v s → Calls Tryz.prog 15 #[.agg #[v], .int .i64 (8 - (f : Int))] w fun e w' => e = .returned (.bool (deepS f s)) ∧ Below w.heap.size w w'
def DeepCOK (f : Nat) : Prop := ∀ (c : Cp) (vi vk va vp : Value) (w : World), CpC (SelsR f w.heap.size w) w.heap.size w [.string c.tag, vi, vk, va, vp] c → Calls Tryz.prog 36 #[.agg #[.string c.tag, vi, vk, va, vp], .int .i64 (8 - (f : Int))] w fun e w' => e = .returned (.bool (deepC f c)) ∧ Below w.heap.size w w'
theorem any_snoc {α : Type} (g : α → Bool) {l : List α} {k : Nat} {x : α} (h : l[k]? = some x) : (l.take (k + 1)).any g = ((l.take k).any g || g x) := by
  obtain ⟨hk, rfl⟩ := List.getElem?_eq_some_iff.1 h
  rw [List.take_succ_eq_append_getElem hk, List.any_append]
  simp
theorem any_yes {α : Type} (g : α → Bool) {l : List α} {k : Nat} {x : α} (h : l[k]? = some x) (hx : g x = true) : l.any g = true := List.any_eq_true.2 ⟨x, List.mem_of_getElem? h, hx⟩

set_option maxRecDepth 100000 in
set_option maxHeartbeats 1000000 in
theorem deepSel_of (f : Nat) (H : DeepCOK f) : DeepSOK f := by
  intro v s w hv
  obtain ⟨q, cap, rfl⟩ := RowT.len hv
  obtain ⟨V, hV⟩ : ∃ V, deepS f s = V := ⟨_, rfl⟩
  rw [hV]
  rw [deepS_eq] at hV
  obtain ⟨w1, hw1⟩ : ∃ w1, w.alloc (.cells #[.slice q s.length cap] 36) = w1 := ⟨_, rfl⟩
  have b1 : Below w.heap.size w w1 := by rw [← hw1]; exact (Below.refl _ _).alloc (Nat.le_refl _) _
  have k1 : Blk w1 w.heap.size 36 [.slice q s.length cap] := by rw [← hw1]; exact Blk.new w 36 _
  have c0 := (blk1 k1).1
  have HK : Hid (Blk w1 w.heap.size 36 [.slice q s.length cap]) := k1
  have HV : Hid (PartsR f w.heap.size w (.slice q s.length cap) s) := hv
  have HVV : Hid ((decide (50 < s.length) || s.any (fun p => deepC f p.2)) = V) := hV
  have HH : Hid (DeepCOK f) := H
  obtain ⟨D, hD⟩ : ∃ D : Int, 8 - (f : Int) = D := ⟨_, rfl⟩
  have HD : Hid (8 - (f : Int) = D) := hD
  rw [hD]
  clear hv k1 hV H hD
  by_cases h50 : (50 : Int) < (s.length : Int)
  · obtain rfl : true = V := by rw [← HVV.out, decide_eq_true (show 50 < s.length by omega)]; rfl
    go_enter Tryz.func15, Tryz.ntmps15
    go_wp2
    go_ret
    exact ⟨rfl, b1⟩
  · go_enter Tryz.func15, Tryz.ntmps15
    go_wp2
    clear c0 hw1
    go_loopw [5] (fun x wr => ∃ k : Nat, x = .int .i64 k ∧ k ≤ s.length ∧ Hid ((s.take k).any (fun p => deepC f p.2) = false) ∧ Below w1.heap.size w1 wr) (fun x _ => s.length - (intOf x).toNat)
    case atStart => exact ⟨0, rfl, Nat.zero_le _, rfl, Below.refl _ _⟩
    case round =>
      obtain ⟨k, rfl, hk, HA, hb⟩ := hrel
      have c0 := (blk1 (HK.out.below hb HK.out.lt)).1
      have hbw := below_next b1 hb
      by_cases hlt : k < s.length
      · have hki : (k : Int) < (s.length : Int) := by omega
        obtain ⟨p, hp⟩ : ∃ p, s[k]? = some p := ⟨_, List.getElem?_eq_getElem hlt⟩
        obtain ⟨b, off, vi, vk, va, vp, hq, hbn, hc1, hc2, ⟨x0, x1, x2, x3, x4, x5⟩, r1, r2, r3, r4⟩ := PartsR.get (PartsR.below HV.out hbw) hp
        subst hq
        unfold maxLen at hc2
        have hs := hbw.size
        have hcall := HH.out p.2 vi vk va vp wr ⟨vi, vk, va, vp, rfl, r1.mono hs (fun _ _ h => h), r2.mono hs (fun _ _ h => h), r3.mono hs (fun _ _ h => h), r4.mono hs (fun _ _ ⟨x, e, hx⟩ => ⟨x, e, hx.mono f hs⟩)⟩
        obtain ⟨q1, cp1, rfl⟩ := r1.len
        obtain ⟨q2, cp2, rfl⟩ := r2.len
        obtain ⟨q3, cp3, rfl⟩ := r3.len
        obtain ⟨q4, cp4, rfl⟩ := r4.len
        have hk1 : (k : Int) + 1 ≤ 9223372036854775807 := by omega
        have HP : Hid (s[k]? = some p) := hp
        rw [HD.out] at hcall
        clear r1 r2 r3 r4 hp
        go_wp2_with fail
        refine hcall.mono ?_
        clear hcall x0 x1 x2 x3 x4 x5 c0
        rintro e w2 ⟨rfl, b2⟩
        have hB2 := below_next hb b2
        have hF := below_next b1 hB2
        cases ht : deepC f p.2 with
        | true =>
          obtain rfl : true = V := by
            rw [← HVV.out, any_yes (fun p : Pt => deepC f p.2) HP.out ht, Bool.or_true]
          clear ht
          go_wp2
          go_ret
          exact ⟨rfl, hF⟩
        | false =>
          have HA1 : Hid ((s.take (k + 1)).any (fun p => deepC f p.2) = false) := by
            show _ = _
            rw [any_snoc _ HP.out, HA.out, ht]; rfl
          clear ht HA
          go_wp2
          go_roundw
          case rel => exact ⟨k + 1, by go_num, by omega, HA1, hB2⟩
          case measure => simp [intOf]; omega
      · have hki : ¬ (k : Int) < (s.length : Int) := by omega
        obtain rfl : false = V := by
          have := HA.out
          rw [List.take_of_length_le (by omega)] at this
          rw [← HVV.out, this, decide_eq_false (show ¬ 50 < s.length by omega)]; rfl
        go_wp2
        go_ret
        exact ⟨rfl, hbw⟩

theorem isList_eq (p : Ps) : isList p = (decide (p.kind = 7) || decide (p.kind = 8)) := rfl
/-- What one pseudo-class says. -/
def deepP (f : Nat) (q : Ps) : Bool := isList q && match f with
  | 0 => true
  | f + 1 => q.list.any (deepS f)
theorem deepC_any (f : Nat) (c : Cp) : deepC f c = c.pss.any (deepP f) := by
  cases f with
  | zero =>
    show c.pss.any isList = _
    congr 1
    funext q
    unfold deepP
    rw [Bool.and_true]
  | succ f => rfl

set_option maxRecDepth 100000 in
set_option maxHeartbeats 1000000 in
theorem deep_of (f : Nat) (hf : f ≤ 8) (H : ∀ g, f = g + 1 → DeepSOK g) : DeepCOK f := by
  intro c vi vk va vp w hv
  obtain ⟨i', k', a', p', e, r1, r2, r3, r4⟩ := hv
  simp only [List.cons.injEq, and_true, true_and] at e
  obtain ⟨rfl, rfl, rfl, rfl⟩ := e
  obtain ⟨q1, cp1, rfl⟩ := r1.len
  obtain ⟨q2, cp2, rfl⟩ := r2.len
  obtain ⟨q3, cp3, rfl⟩ := r3.len
  obtain ⟨q4, cp4, rfl⟩ := r4.len
  have h4s := r4.short
  unfold maxLen at h4s
  obtain ⟨V, hV⟩ : ∃ V, deepC f c = V := ⟨_, rfl⟩
  rw [hV]
  rw [deepC_any] at hV
  obtain ⟨w1, hw1⟩ : ∃ w1, w.alloc (.cells #[.string c.tag, .slice q1 c.ids.length cp1, .slice q2 c.classes.length cp2, .slice q3 c.attrs.length cp3, .slice q4 c.pss.length cp4] 45) = w1 := ⟨_, rfl⟩
  have b1 : Below w.heap.size w w1 := by rw [← hw1]; exact (Below.refl _ _).alloc (Nat.le_refl _) _
  have k1 : Blk w1 w.heap.size 45 [.string c.tag, .slice q1 c.ids.length cp1, .slice q2 c.classes.length cp2, .slice q3 c.attrs.length cp3, .slice q4 c.pss.length cp4] := by rw [← hw1]; exact Blk.new w 45 _
  have HK : Hid (Blk w1 w.heap.size 45 [.string c.tag, .slice q1 c.ids.length cp1, .slice q2 c.classes.length cp2, .slice q3 c.attrs.length cp3, .slice q4 c.pss.length cp4]) := k1
  have HV : Hid (RowT 4 (PsC (SelsR f w.heap.size w)) w.heap.size w (.slice q4 c.pss.length cp4) c.pss) := r4
  have HVV : Hid (c.pss.any (deepP f) = V) := hV
  have HH : Hid (∀ g, f = g + 1 → DeepSOK g) := H
  obtain ⟨D, hD⟩ : ∃ D : Int, 8 - (f : Int) = D := ⟨_, rfl⟩
  rw [hD]
  have HD : Hid (8 - (f : Int) = D) := hD
  clear r1 r2 r3 r4 k1 hV H hD
  obtain ⟨N, hN⟩ : ∃ N, c.pss.length = N := ⟨_, rfl⟩
  have HN : Hid (c.pss.length = N) := hN
  rw [hN] at hw1 h4s HK HV ⊢
  clear hN
  go_enter Tryz.func36, Tryz.ntmps36
  go_wp2
  clear hw1
  go_loopw [5] (fun x wr => ∃ k : Nat, x = .int .i64 k ∧ k ≤ N ∧ Hid ((c.pss.take k).any (deepP f) = false) ∧ Below w1.heap.size w1 wr) (fun x _ => N - (intOf x).toNat)
  case atStart => exact ⟨0, rfl, Nat.zero_le _, rfl, Below.refl _ _⟩
  case round =>
    obtain ⟨k, rfl, hk, HA, hb⟩ := hrel
    obtain ⟨⟨c0, c1, c2, c3, c4⟩, _⟩ := blk5 (HK.out.below hb HK.out.lt)
    have hbw := below_next b1 hb
    by_cases hlt : k < N
    · have hki : (k : Int) < (N : Int) := by omega
      obtain ⟨u, hu⟩ : ∃ u, c.pss[k]? = some u := ⟨_, List.getElem?_eq_getElem (by rw [HN.out]; exact hlt)⟩
      have HU : Hid (c.pss[k]? = some u) := hu
      obtain ⟨b5, off5, y, hq5, hbn5, he1, he2, hQ, ⟨u0, u1, u2, u3⟩⟩ := pss_get HV.out hu
      subst hq5
      unfold maxLen at he2
      rw [HN.out] at he1
      have v0 := (hbw.cell (p := ⟨b5, off5 + k * 4, none⟩) hbn5).trans u0
      have v1 := (hbw.cell (p := ⟨b5, off5 + k * 4 + 1, none⟩) hbn5).trans u1
      have v2 := (hbw.cell (p := ⟨b5, off5 + k * 4 + 2, none⟩) hbn5).trans u2
      have v3 := (hbw.cell (p := ⟨b5, off5 + k * 4 + 3, none⟩) hbn5).trans u3
      obtain ⟨qy, my, cy, rfl⟩ := hQ.form
      have HQ : Hid (SelsR f w.heap.size w (.slice qy my cy) u.list) := hQ
      obtain ⟨w3, hw3⟩ : ∃ w3, wr.alloc (.cells #[.int .i64 u.kind, .int .i64 u.a, .int .i64 u.b, .slice qy my cy] 40) = w3 := ⟨_, rfl⟩
      have b3 : Below wr.heap.size wr w3 := by rw [← hw3]; exact (Below.refl _ _).alloc (Nat.le_refl _) _
      have k3 : Blk w3 wr.heap.size 40 [.int .i64 u.kind, .int .i64 u.a, .int .i64 u.b, .slice qy my cy] := by rw [← hw3]; exact Blk.new wr 40 _
      have K3 : Hid (Blk w3 wr.heap.size 40 [.int .i64 u.kind, .int .i64 u.a, .int .i64 u.b, .slice qy my cy]) := k3
      obtain ⟨⟨p0, p1, p2, p3⟩, _⟩ := blk4 k3
      have B3 := below_next hbw b3
      have hb3 := below_next hb b3
      have hk1 : (k : Int) + 1 ≤ 9223372036854775807 := by omega
      have HA1 : Hid (deepP f u = false → (c.pss.take (k + 1)).any (deepP f) = false) := fun h => by rw [any_snoc _ HU.out, HA.out, h]; rfl
      clear hu hQ u0 u1 u2 u3 k3
      go_upto_region 5 with fail
      first | rw [hw3] | skip
      clear v0 v1 v2 v3 c0 c1 c2 c3 c4 hw3
      have fin : Hid (isList u = false → deepP f u = false) := fun h => by unfold deepP; rw [h]; rfl
      go_cut [28] (fun x wx => ∃ t : Bool, x = .bool t ∧ wx = w3 ∧ Hid (t = !isList u))
      case first =>
        by_cases h7 : u.kind = 7
        · have h7' : (u.kind == 7) = true := by rw [h7]; rfl
          have h7n : (u.kind != 7) = false := by rw [h7]; rfl
          have HL : Hid (false = !isList u) := by show _ = _; rw [isList_eq, h7]; rfl
          clear h7
          go_wp2
          go_meet
          exact ⟨false, rfl, rfl, HL⟩
        · have h7n : (u.kind != 7) = true := by simpa [bne] using h7
          by_cases h8 : u.kind = 8
          · have h8n : (u.kind != 8) = false := by rw [h8]; rfl
            have HL : Hid (false = !isList u) := by show _ = _; rw [isList_eq, h8]; rfl
            clear h7 h8
            go_wp2
            go_meet
            exact ⟨false, rfl, rfl, HL⟩
          · have h8n : (u.kind != 8) = true := by simpa [bne] using h8
            have HL : Hid (true = !isList u) := by show _ = _; rw [isList_eq, decide_eq_false h7, decide_eq_false h8]; rfl
            clear h7 h8
            go_wp2
            go_meet
            exact ⟨true, rfl, rfl, HL⟩
      case rest =>
      obtain ⟨t, rfl, rfl, HL⟩ := hcut
      clear p0 p1 p2 p3
      cases t with
      | true =>
        have hil : isList u = false := by have := HL.out; cases h : isList u <;> rw [h] at this <;> first | rfl | cases this
        have HA2 : Hid ((c.pss.take (k + 1)).any (deepP f) = false) := HA1.out (fin.out hil)
        clear hil HL fin HA1 HA
        go_wp2
        go_roundw
        case rel => exact ⟨k + 1, by go_num, by omega, HA2, hb3⟩
        case measure => simp [intOf]; omega
      | false =>
        have hil : isList u = true := by have := HL.out; cases h : isList u <;> rw [h] at this <;> first | rfl | cases this
        have HIL : Hid (isList u = true) := hil
        clear HL hil fin
        cases f with
        | zero =>
          have hD8 : (8 : Int) ≤ D := by have := HD.out; omega
          obtain rfl : true = V := by
            rw [← HVV.out]
            exact (any_yes (deepP 0) HU.out (by unfold deepP; rw [HIL.out]; rfl)).symm
          go_wp2
          go_ret
          exact ⟨rfl, B3⟩
        | succ g =>
          have hD8 : ¬ ((8 : Int) ≤ D) := by have := HD.out; omega
          have hD1 : IntKind.i64.wrap (D + 1) = 8 - (g : Int) := by rw [IntKind.wrap_i64]; have := HD.out; omega
          have hqn : ∃ cyy, (Value.slice qy my cy) = .slice qy u.list.length cyy := by
            obtain ⟨p, cc, e⟩ := RowT.len (show SelsR (g + 1) _ _ _ _ from HQ.out)
            cases e
            exact ⟨_, rfl⟩
          obtain ⟨cyy, ey⟩ := hqn
          cases ey
          have hDP : Hid (∀ t2 : Bool, u.list.any (deepS g) = t2 → deepP (g + 1) u = t2) := fun t2 h => by unfold deepP; rw [HIL.out]; exact h
          obtain ⟨NL, hNL⟩ : ∃ NL, u.list.length = NL := ⟨_, rfl⟩
          have HNL : Hid (u.list.length = NL) := hNL
          rw [hNL] at K3 HQ
          clear hNL
          obtain ⟨wi, hwi⟩ : ∃ wi, wi = wr := ⟨_, rfl⟩
          subst hwi
          go_wp2
          go_loopw [7] (fun x wr => ∃ m : Nat, x = .int .i64 m ∧ m ≤ NL ∧ Hid ((u.list.take m).any (deepS g) = false) ∧ Below wc.heap.size wc wr) (fun x _ => NL - (intOf x).toNat)
          case atStart => exact ⟨0, rfl, Nat.zero_le _, rfl, Below.refl _ _⟩
          case round =>
            obtain ⟨m, rfl, hm, HM, hb4⟩ := hrel
            obtain ⟨⟨p0, p1, p2, p3⟩, _⟩ := blk4 (K3.out.below hb4 K3.out.lt)
            have hB4 := below_next B3 hb4
            by_cases hml : m < NL
            · have hmi : (m : Int) < (NL : Int) := by omega
              obtain ⟨z, hz⟩ : ∃ z, u.list[m]? = some z := ⟨_, List.getElem?_eq_getElem (by rw [HNL.out]; exact hml)⟩
              obtain ⟨bz, offz, pv, hqz, hbnz, hd1, hd2, hpv, z0⟩ := SelsR.get HQ.out hz
              subst hqz
              unfold maxLen at hd2
              rw [HNL.out] at hd1
              have z1 := (hB4.cell (p := ⟨bz, offz + m, none⟩) hbnz).trans z0
              have hcall := HH.out g rfl pv z wr ((PartsR.below hpv hB4).mono hB4.size)
              obtain ⟨qp, cp, rfl⟩ := RowT.len hpv
              have HZ : Hid (u.list[m]? = some z) := hz
              have hm1 : (m : Int) + 1 ≤ 9223372036854775807 := by omega
              clear hz hpv z0
              go_wp2_with fail
              refine hcall.mono ?_
              clear hcall z1 p0 p1 p2 p3
              rintro e w5 ⟨rfl, b5⟩
              have hB5 := below_next hb4 b5
              have hF := below_next B3 hB5
              cases ht : deepS g z with
              | true =>
                obtain rfl : true = V := by
                  rw [← HVV.out]
                  exact (any_yes (deepP (g + 1)) HU.out (hDP.out true (any_yes (deepS g) HZ.out ht))).symm
                clear ht
                go_wp2
                go_ret
                exact ⟨rfl, hF⟩
              | false =>
                have HM1 : Hid ((u.list.take (m + 1)).any (deepS g) = false) := by
                  show _ = _
                  rw [any_snoc _ HZ.out, HM.out, ht]; rfl
                clear ht HM
                go_wp2
                go_roundw
                case rel => exact ⟨m + 1, by go_num, by omega, HM1, hB5⟩
                case measure => simp [intOf]; omega
            · have hmi : ¬ (m : Int) < (NL : Int) := by omega
              have HA2 : Hid ((c.pss.take (k + 1)).any (deepP (g + 1)) = false) := by
                refine HA1.out (hDP.out false ?_)
                have := HM.out
                rwa [List.take_of_length_le (by rw [HNL.out]; omega)] at this
              have hB5 := below_next hb3 hb4
              clear HM HA1 HA
              go_wp2
              go_roundw
              case rel => exact ⟨k + 1, by go_num, by omega, HA2, hB5⟩
              case measure => simp [intOf]; omega
    · have hki : ¬ (k : Int) < (N : Int) := by omega
      obtain rfl : false = V := by
        have := HA.out
        rw [List.take_of_length_le (by rw [HN.out]; omega)] at this
        rw [← HVV.out, this]
      go_wp2
      go_ret
      exact ⟨rfl, hbw⟩
theorem deepC_all : ∀ f, f ≤ 8 → DeepCOK f
  | 0, h => deep_of 0 h (fun g e => by cases e)
  | f + 1, h => deep_of (f + 1) h (fun g e => by cases e; exact deepSel_of f (deepC_all f (by omega)))
theorem deepSel_any (f : Nat) (hf : f ≤ 8) : DeepSOK f := deepSel_of f (deepC_all f hf)

end Go.Proofs.YtcicppadjipndaaGreat.Wg

/- Selectors that came in as arguments of the second form: all texts of them are in bounds, to every depth. -/
namespace Go.Proofs.YtcicppadjipndaaGreat.Wg
open Go.Proofs.YtcicppadjipndaaGreat.Tre
open Go Go.RowKit Go.ChangeShapes Go.WideShapes Go.ChangeAt Sl

/-! ### the bound of the second form -/
theorem bulk_len {H : Type} : ∀ l : List (DataW H), l.length ≤ Rows.uptoBulkAll l
  | [] => Nat.zero_le _
  | d :: r => by
    have h1 : 1 ≤ Rows.uptoBulk d := by cases d with
      | lit l => cases l <;> simp [Rows.uptoBulk]
      | nil => simp [Rows.uptoBulk]
      | ptr d => simp [Rows.uptoBulk]
      | slice elems spare => simp [Rows.uptoBulk]
      | agg parts => simp [Rows.uptoBulk]
      | iface t d => simp [Rows.uptoBulk]
      | map entries => simp [Rows.uptoBulk]
      | held h => simp [Rows.uptoBulk]
    have := bulk_len r
    simp only [Rows.uptoBulkAll, List.length_cons]; omega
theorem bulk_lenE {H : Type} : ∀ l : List (Lit × DataW H), l.length ≤ Rows.uptoBulkEntries l
  | [] => Nat.zero_le _
  | x :: r => by
    have h1 : 1 ≤ Rows.uptoBulkEntry x := by
      obtain ⟨a, d⟩ := x
      cases a <;> simp [Rows.uptoBulkEntry]
    have := bulk_lenE r
    simp only [Rows.uptoBulkEntries, List.length_cons]; omega
theorem bulk_part {H : Type} {d : DataW H} {l : List (DataW H)} (h : d ∈ l) : Rows.uptoBulk d ≤ Rows.uptoBulkAll l := by
  induction l with
  | nil => cases h
  | cons x r ih =>
    simp only [Rows.uptoBulkAll]
    cases List.mem_cons.1 h with
    | inl e => subst e; omega
    | inr e => have := ih e; omega
theorem size_lit {H : Type} {R : Nat} {s : ByteArray} (h : Rows.uptoBulk (DataW.lit (.string s.data.toList) : DataW H) ≤ R) : s.size ≤ R := by
  simp only [Rows.uptoBulk, Array.length_toList] at h
  show s.data.size ≤ R
  omega
set_option maxRecDepth 100000 in
/-- A slice of things, each opened by itself. -/
theorem row_inR {R : Nat} {H : Type} {enc : TypeId × Value → H} {W : World} {base fuel : Nat} {v : Value} {x : DataW H × List MemPlace} {t e : TypeId} {α : Type} [Inhabited α] (sz : Nat) (hz : 0 < sz) (T : List Value → α → Prop) (Ok : α → Prop)
    (ht : Tryz.prog.underlying t = some (.slice e)) (hcells : Tryz.prog.cellsOf e = sz) (h : DataW.trod enc Tryz.prog W base (fun _ => true) true fuel t [v] = some x) (hw : Rows.uptoBulk x.1 ≤ R)
    (each : ∀ n cs y, DataW.trod enc Tryz.prog W base (fun _ => true) true n e cs = some y → Rows.uptoBulk y.1 ≤ R → cs.length = sz → ∃ a : α, T cs a ∧ Ok a) :
    ∃ l : List α, RowT sz T W.heap.size W v l ∧ (∀ a ∈ l, Ok a) ∧ l.length ≤ R := by
  rcases Deep.open_slice ht h with ⟨hcs, _⟩ | ⟨x, len, cap, m, n, D, Pl, hcs, _, hl, hm, hmm, rfl, hel⟩
  · cases hcs
    exact ⟨[], .inl ⟨rfl, _, _, rfl⟩, fun _ h => (by cases h), by simp⟩
  · cases hcs
    simp only [if_true] at hmm
    subst hmm
    rw [hcells] at hel
    simp only [Rows.uptoBulk] at hw
    have hD : ∀ i, i < len → Rows.uptoBulk (D i) ≤ R := fun i hi => by
      have := bulk_part (l := (List.range len).map D) (List.mem_map.2 ⟨i, List.mem_range.2 hi, rfl⟩)
      omega
    have one : ∀ i, i < len → ∃ a : α × List Value, Ok a.1 ∧ T a.2 a.1 ∧ a.2.length = sz ∧ ∀ j u, a.2[j]? = some u → W.cell? ((x.add (i * sz)).add j) = some u := fun i hi => by
      obtain ⟨cs', hcs, htr⟩ := hel i (by omega)
      obtain ⟨_, hcl, hcc⟩ := World.cells?_some hcs
      obtain ⟨a, ha, hg⟩ := each n cs' _ htr (hD i hi) hcl
      refine ⟨(a, cs'), hg, ha, hcl, fun j u hj => ?_⟩
      have hjl : j < sz := by rw [← hcl]; exact (List.getElem?_eq_some_iff.1 hj).1
      rw [hcc j hjl, hj]
    obtain ⟨F, hF⟩ := Deep.choose_lt one
    have hbytes : len ≤ R := by
      have := bulk_len ((List.range len).map D)
      rw [List.length_map, List.length_range] at this
      omega
    refine ⟨(List.range len).map (fun i => (F i).1), ?_, fun a ha => ?_, by simpa using hbytes⟩
    · by_cases h0 : len = 0
      · subst h0
        exact .inl ⟨rfl, _, _, rfl⟩
      · obtain ⟨b, off, spot⟩ := x
        obtain ⟨_, _, hf0, hF0⟩ := hF 0 (by omega)
        have hex : ∃ u, (F 0).2[0]? = some u := ⟨_, List.getElem?_eq_getElem (by rw [hf0]; exact hz)⟩
        obtain ⟨u0, hu0⟩ := hex
        have hc0 := hF0 0 u0 hu0
        have hspot : spot = none := by simpa [Addr.add] using World.cell?_spot hc0
        subst hspot
        have key : ∀ i j, (((⟨b, off, none⟩ : Addr).add (i * sz)).add j) = ⟨b, off + i * sz + j, none⟩ := fun i j => by rw [addr_add', addr_add']
        refine .inr ⟨b, off, _, by simp, by simpa using hl, hm, World.block_lt_of_cell? W ⟨b, off, none⟩ (by rw [key] at hc0; simpa using hc0), fun j a hj => ?_⟩
        rw [List.getElem?_map] at hj
        obtain ⟨k, hk, rfl⟩ := Option.map_eq_some_iff.1 hj
        obtain ⟨h1, h2⟩ := List.getElem?_eq_some_iff.1 hk
        simp at h1 h2
        subst h2
        obtain ⟨_, g2, g3, g4⟩ := hF j (by omega)
        refine ⟨(F j).2, g3, g2, fun i u hu => ?_⟩
        have := g4 i u hu
        rwa [key] at this
    · obtain ⟨i, hi, rfl⟩ := List.mem_map.1 ha
      exact (hF i (List.mem_range.1 hi)).1

set_option maxRecDepth 100000 in
theorem names_inR {R : Nat} {H : Type} {enc : TypeId × Value → H} {W : World} {base fuel : Nat} {v : Value} {x : DataW H × List MemPlace} (h : DataW.trod enc Tryz.prog W base (fun _ => true) true fuel 42 [v] = some x) (hw : Rows.uptoBulk x.1 ≤ R) :
    ∃ l : List ByteArray, RowT 1 StrC W.heap.size W v l ∧ ∀ s ∈ l, s.size ≤ R := by
  have : Inhabited ByteArray := ⟨⟨#[]⟩⟩
  obtain ⟨l, h1, h2, _⟩ := row_inR (R := R) 1 (by decide) StrC (fun s => s.size ≤ R) Tryz.underlying42 cells_str h hw (fun n cs y hy hwy hl => by
    obtain ⟨s, rfl, hys, _⟩ := DataW.trod_string Tryz.underlying9 hy
    rw [hys] at hwy
    exact ⟨s, rfl, size_lit hwy⟩)
  exact ⟨l, h1, h2⟩
set_option maxRecDepth 100000 in
theorem attrs_inR {R : Nat} {H : Type} {enc : TypeId × Value → H} {W : World} {base fuel : Nat} {v : Value} {x : DataW H × List MemPlace} (h : DataW.trod enc Tryz.prog W base (fun _ => true) true fuel 43 [v] = some x) (hw : Rows.uptoBulk x.1 ≤ R) :
    ∃ l : List At, RowT 3 AtC W.heap.size W v l ∧ ∀ a ∈ l, a.name.size ≤ R ∧ a.text.size ≤ R ∧ (Lit.int .i64 a.op).wf = true := by
  have : Inhabited At := ⟨⟨⟨#[]⟩, 0, ⟨#[]⟩⟩⟩
  obtain ⟨l, h1, h2, _⟩ := row_inR (R := R) 3 (by decide) AtC (fun a : At => a.name.size ≤ R ∧ a.text.size ≤ R ∧ (Lit.int .i64 a.op).wf = true) Tryz.underlying43 cells_attr h hw (fun n cs y hy hwy hl => by
    obtain ⟨xs, n', _, rfl, _, hxl, hf⟩ := DataW.trod_struct Tryz.underlying150 hy
    match cs, hl with
    | [c0, c1, c2], _ =>
      match xs, hxl with
      | [y0, y1, y2], _ =>
        have f0 := hf 0 _ rfl
        have f1 := hf 1 _ rfl
        have f2 := hf 2 _ rfl
        simp only [List.getElem?_cons_zero, List.getElem?_cons_succ] at f0 f1 f2
        obtain ⟨k0, g0, e0, _⟩ := DataW.trod_string Tryz.underlying9 f0
        obtain ⟨k1, g1, e1, w1⟩ := DataW.trod_int Tryz.underlying3 f1
        obtain ⟨k2, g2, e2, _⟩ := DataW.trod_string Tryz.underlying9 f2
        cases g0
        cases g1
        cases g2
        simp only [Rows.uptoBulk, Rows.uptoBulkAll, List.map_cons, List.map_nil] at hwy
        have z0 : Rows.uptoBulk y0.1 ≤ R := by omega
        have z2 : Rows.uptoBulk y2.1 ≤ R := by omega
        rw [e0] at z0
        rw [e2] at z2
        exact ⟨⟨k0, k1, k2⟩, rfl, size_lit z0, size_lit z2, w1⟩)
  exact ⟨l, h1, h2⟩
/-- A compound's texts and numbers are in bounds. -/
def CpR (R : Nat) (c : Cp) : Prop := c.tag.size ≤ R ∧ (∀ x ∈ c.ids, x.size ≤ R) ∧ (∀ x ∈ c.classes, x.size ≤ R) ∧ (∀ a ∈ c.attrs, a.name.size ≤ R ∧ a.text.size ≤ R ∧ (Lit.int .i64 a.op).wf = true) ∧ ∀ q ∈ c.pss, (Lit.int .i64 q.a).wf = true ∧ (Lit.int .i64 q.b).wf = true
/-- So are those of all lists that lie in it, so deep. -/
def OkD (R : Nat) : Nat → Sel → Prop
  | 0, s => ∀ p ∈ s, CpR R p.2
  | d + 1, s => ∀ p ∈ s, CpR R p.2 ∧ ∀ q ∈ p.2.pss, ∀ s' ∈ q.list, OkD R d s'
def OkC (R : Nat) (d : Nat) (c : Cp) : Prop := CpR R c ∧ match d with
  | 0 => True
  | d + 1 => ∀ q ∈ c.pss, ∀ s' ∈ q.list, OkD R d s'
theorem OkD_of {R d : Nat} {s : Sel} (h : ∀ p ∈ s, OkC R d p.2) : OkD R d s := by
  cases d with
  | zero => exact fun p hp => (h p hp).1
  | succ d => exact h
def SelsInR (R d : Nat) : Prop := ∀ {H : Type} {enc : TypeId × Value → H} {W : World} {base fuel : Nat} {v : Value} {x : DataW H × List MemPlace}, DataW.trod enc Tryz.prog W base (fun _ => true) true fuel 28 [v] = some x → Rows.uptoBulk x.1 ≤ R →
    ∃ l : List Sel, SelsR d W.heap.size W v l ∧ ∀ s ∈ l, OkD R (d - 1) s
set_option maxRecDepth 100000 in
theorem comp_inR {R : Nat} (d : Nat) (HS : SelsInR R d) {H : Type} {enc : TypeId × Value → H} {W : World} {base n : Nat} {cs : List Value} {y : DataW H × List MemPlace} (hy : DataW.trod enc Tryz.prog W base (fun _ => true) true n 45 cs = some y) (hwy : Rows.uptoBulk y.1 ≤ R) :
    ∃ c : Cp, CpC (SelsR d W.heap.size W) W.heap.size W cs c ∧ OkC R d c := by
  have : Inhabited Ps := ⟨.mk 0 0 0 []⟩
  obtain ⟨xs, n', _, rfl, hl, hxl, hf⟩ := DataW.trod_struct Tryz.underlying45 hy
  rw [cells_comp] at hl
  match cs, hl with
  | [c0, c1, c2, c3, c4], _ =>
    match xs, hxl with
    | [y0, y1, y2, y3, y4], _ =>
      have f0 := hf 0 _ rfl
      have f1 := hf 1 _ rfl
      have f2 := hf 2 _ rfl
      have f3 := hf 3 _ rfl
      have f4 := hf 4 _ rfl
      simp only [List.getElem?_cons_zero, List.getElem?_cons_succ] at f0 f1 f2 f3 f4
      obtain ⟨k0, g0, e0, _⟩ := DataW.trod_string Tryz.underlying9 f0
      simp only [Rows.uptoBulk, Rows.uptoBulkAll, List.map_cons, List.map_nil] at hwy
      have f1' : DataW.trod enc Tryz.prog W base (fun _ => true) true n' 42 [c1] = some y1 := f1
      have f2' : DataW.trod enc Tryz.prog W base (fun _ => true) true n' 42 [c2] = some y2 := f2
      have f3' : DataW.trod enc Tryz.prog W base (fun _ => true) true n' 43 [c3] = some y3 := f3
      have f4' : DataW.trod enc Tryz.prog W base (fun _ => true) true n' 41 [c4] = some y4 := f4
      obtain ⟨l1, a1, b1⟩ := names_inR (R := R) f1' (by omega)
      obtain ⟨l2, a2, b2⟩ := names_inR (R := R) f2' (by omega)
      obtain ⟨l3, a3, b3⟩ := attrs_inR (R := R) f3' (by omega)
      obtain ⟨l4, a4, b4, _⟩ := row_inR (R := R) 4 (by decide) (PsC (SelsR d W.heap.size W)) (fun q : Ps => ((Lit.int .i64 q.a).wf = true ∧ (Lit.int .i64 q.b).wf = true) ∧ ∀ s' ∈ q.list, OkD R (d - 1) s') Tryz.underlying41 cells_ps f4' (by omega) (fun n cs y hy hwy hl => by
        obtain ⟨xs, n', _, rfl, _, hxl, hf⟩ := DataW.trod_struct Tryz.underlying40 hy
        match cs, hl with
        | [p0, p1, p2, p3], _ =>
          match xs, hxl with
          | [z0, z1, z2, z3], _ =>
            have f0 := hf 0 _ rfl
            have f1 := hf 1 _ rfl
            have f2 := hf 2 _ rfl
            have f3 := hf 3 _ rfl
            simp only [List.getElem?_cons_zero, List.getElem?_cons_succ] at f0 f1 f2 f3
            obtain ⟨k0, g0, _, _⟩ := DataW.trod_int Tryz.underlying3 f0
            obtain ⟨k1, g1, _, w1⟩ := DataW.trod_int Tryz.underlying3 f1
            obtain ⟨k2, g2, _, w2⟩ := DataW.trod_int Tryz.underlying3 f2
            have f3' : DataW.trod enc Tryz.prog W base (fun _ => true) true n' 28 [p3] = some z3 := f3
            simp only [Rows.uptoBulk, Rows.uptoBulkAll, List.map_cons, List.map_nil] at hwy
            obtain ⟨ls, h1, h2⟩ := HS f3' (by omega)
            cases g0
            cases g1
            cases g2
            exact ⟨.mk k0 k1 k2 ls, ⟨p3, rfl, h1⟩, ⟨w1, w2⟩, h2⟩)
      have z0 : Rows.uptoBulk y0.1 ≤ R := by omega
      rw [e0] at z0
      cases g0
      refine ⟨.mk k0 l1 l2 l3 l4, ⟨c1, c2, c3, c4, rfl, a1, a2, a3, a4⟩, ⟨size_lit z0, b1, b2, b3, fun q hq => (b4 q hq).1⟩, ?_⟩
      · cases d with
        | zero => trivial
        | succ d => exact fun q hq s' hs' => (b4 q hq).2 s' hs'
set_option maxRecDepth 100000 in
theorem sels_inR (R : Nat) (d : Nat) : SelsInR R d := by
  induction d with
  | zero =>
    intro H enc W base fuel v x h hw
    rcases Deep.open_slice Tryz.underlying28 h with ⟨hcs, _⟩ | ⟨x, len, cap, m, n, D, Pl, hcs, _⟩
    · cases hcs
      exact ⟨[], ⟨rfl, _, _, _, rfl⟩, fun _ h => by cases h⟩
    · cases hcs
      exact ⟨[], ⟨rfl, _, _, _, rfl⟩, fun _ h => by cases h⟩
  | succ d ih =>
    intro H enc W base fuel v x h hw
    have : Inhabited Sel := ⟨[]⟩
    have : Inhabited Pt := ⟨(0, .mk ⟨#[]⟩ [] [] [] [])⟩
    obtain ⟨l, h1, h2, _⟩ := row_inR (R := R) 1 (by decide) (fun c s => ∃ x, c = [x] ∧ PtsR (SelsR d W.heap.size W) W.heap.size W x s) (OkD R d) Tryz.underlying28 cells_sel h hw (fun n cs y hy hwy hl => by
      obtain ⟨xs, n', _, rfl, _, hxl, hf⟩ := DataW.trod_struct Tryz.underlying36 hy
      match cs, hl with
      | [c0], _ =>
        match xs, hxl with
        | [y0], _ =>
          have f0 := hf 0 _ rfl
          simp only [List.getElem?_cons_zero] at f0
          have f0' : DataW.trod enc Tryz.prog W base (fun _ => true) true n' 34 [c0] = some y0 := f0
          simp only [Rows.uptoBulk, Rows.uptoBulkAll, List.map_cons, List.map_nil] at hwy
          obtain ⟨ps, g1, g2, _⟩ := row_inR (R := R) 6 (by decide) (PtC (SelsR d W.heap.size W) W.heap.size W) (fun p : Pt => OkC R d p.2) Tryz.underlying34 cells_part f0' (by omega) (fun n cs y hy hwy hl => by
            obtain ⟨xs, n', _, rfl, _, hxl, hf⟩ := DataW.trod_struct Tryz.underlying48 hy
            match cs, hl with
            | [c0, c1, c2, c3, c4, c5], _ =>
              match xs, hxl with
              | [y0, y1], _ =>
                have f0 := hf 0 _ rfl
                have f1 := hf 1 _ rfl
                simp only [List.getElem?_cons_zero, List.getElem?_cons_succ] at f0 f1
                obtain ⟨k0, g0, _, _⟩ := DataW.trod_int Tryz.underlying3 f0
                have f1' : DataW.trod enc Tryz.prog W base (fun _ => true) true n' 45 [c1, c2, c3, c4, c5] = some y1 := f1
                simp only [Rows.uptoBulk, Rows.uptoBulkAll, List.map_cons, List.map_nil] at hwy
                obtain ⟨c, h1, h2⟩ := comp_inR (R := R) d ih f1' (by omega)
                cases g0
                exact ⟨(k0, c), ⟨_, rfl, h1⟩, h2⟩)
          exact ⟨ps, ⟨c0, rfl, g1⟩, OkD_of g2⟩)
    exact ⟨l, h1, h2⟩

set_option maxRecDepth 100000 in
theorem sel_inR {R : Nat} {H : Type} {enc : TypeId × Value → H} {W : World} {fuel : Nat} {cs : Array Value} {y : DataW H × List MemPlace}
    (hy : DataW.trod enc Tryz.prog W 0 (fun _ => true) true fuel 36 cs.toList = some y) (hw : Rows.uptoBulk y.1 ≤ R) :
    ∃ s : Sel, SelAt s W (.agg cs) ∧ OkD R 10 s := by
  have : Inhabited Pt := ⟨(0, .mk ⟨#[]⟩ [] [] [] [])⟩
  obtain ⟨xs, n', _, rfl, hl, hxl, hf⟩ := DataW.trod_struct Tryz.underlying36 hy
  rw [cells_sel] at hl
  have hcs : ∃ c0, cs = #[c0] := by
    obtain ⟨l⟩ := cs
    match l, hl with
    | [c0], _ => exact ⟨_, rfl⟩
  obtain ⟨c0, rfl⟩ := hcs
  match xs, hxl with
  | [y0], _ =>
    have f0 := hf 0 _ rfl
    simp only [List.getElem?_cons_zero] at f0
    have f0' : DataW.trod enc Tryz.prog W 0 (fun _ => true) true n' 34 [c0] = some y0 := f0
    simp only [Rows.uptoBulk, Rows.uptoBulkAll, List.map_cons, List.map_nil] at hw
    obtain ⟨ps, g1, g2, _⟩ := row_inR (R := R) 6 (by decide) (PtC (SelsR 10 W.heap.size W) W.heap.size W) (fun p : Pt => OkC R 10 p.2) Tryz.underlying34 cells_part f0' (by omega) (fun n cs y hy hwy hl => by
      obtain ⟨xs, n', _, rfl, _, hxl, hf⟩ := DataW.trod_struct Tryz.underlying48 hy
      match cs, hl with
      | [c0, c1, c2, c3, c4, c5], _ =>
        match xs, hxl with
        | [y0, y1], _ =>
          have f0 := hf 0 _ rfl
          have f1 := hf 1 _ rfl
          simp only [List.getElem?_cons_zero, List.getElem?_cons_succ] at f0 f1
          obtain ⟨k0, g0, _, _⟩ := DataW.trod_int Tryz.underlying3 f0
          have f1' : DataW.trod enc Tryz.prog W 0 (fun _ => true) true n' 45 [c1, c2, c3, c4, c5] = some y1 := f1
          simp only [Rows.uptoBulk, Rows.uptoBulkAll, List.map_cons, List.map_nil] at hwy
          obtain ⟨c, h1, h2⟩ := comp_inR (R := R) 10 (sels_inR R 10) f1' (by omega)
          cases g0
          exact ⟨(k0, c), ⟨_, rfl, h1⟩, h2⟩)
    exact ⟨ps, ⟨c0, rfl, g1⟩, OkD_of g2⟩

/-! ### cut less deep -/
theorem CpR_cut {R d : Nat} {c : Cp} (h : CpR R c) : CpR R (cutC d c) := by
  obtain ⟨h1, h2, h3, h4, h5⟩ := h
  refine ⟨h1, h2, h3, h4, fun q hq => ?_⟩
  obtain ⟨q', hq', rfl⟩ := List.mem_map.1 hq
  exact h5 q' hq'
theorem OkD_cut {R : Nat} : ∀ (d : Nat) {s : Sel}, OkD R (d + 1) s → OkD R d (cutS d s)
  | 0, s, h => fun p hp => by
    obtain ⟨p', hp', rfl⟩ := List.mem_map.1 hp
    exact CpR_cut (h p' hp').1
  | d + 1, s, h => fun p hp => by
    obtain ⟨p', hp', rfl⟩ := List.mem_map.1 hp
    refine ⟨CpR_cut (h p' hp').1, fun q hq s' hs' => ?_⟩
    obtain ⟨q', hq', rfl⟩ := List.mem_map.1 hq
    have hs2 : s' ∈ q'.list.map (cutS d) := hs'
    obtain ⟨s'', hs'', rfl⟩ := List.mem_map.1 hs2
    exact OkD_cut d ((h p' hp').2 q' hq' s'' hs'')


end Go.Proofs.YtcicppadjipndaaGreat.Wg
namespace Go.Proofs.YtcicppadjipndaaGreat
open Go.Proofs.YtcicppadjipndaaGreat.Tre
open Go Go.RowKit Go.ChangeShapes Go.WideShapes Go.ChangeAt Sl Wg
theorem selsUp_of_reads {H : Type} {enc : TypeId × Value → H} {W : World} {a : Option Addr} {len cap : Nat} {d : DataW H} {p : List MemPlace} {ds : List (DataW H)}
    (h : DataW.Trod enc Tryz.prog W 0 (fun _ => true) true 28 (.slice a len cap) d p) (hk : Rows.uptoSmall H ds = true) (hd : d ∈ ds) :
    ∃ l : List Sel, SelsR 11 W.heap.size W (.slice a len cap) l ∧ ∀ s ∈ l, OkD 1048576 10 s := by
  obtain ⟨fuel, hf⟩ := h
  have h2 : Rows.uptoBulkAll ds ≤ 1048576 := of_decide_eq_true hk
  obtain ⟨l, h1, h2⟩ := sels_inR 1048576 11 (x := (d, p)) hf (Nat.le_trans (bulk_part hd) h2)
  exact ⟨l, h1, h2⟩
end Go.Proofs.YtcicppadjipndaaGreat
