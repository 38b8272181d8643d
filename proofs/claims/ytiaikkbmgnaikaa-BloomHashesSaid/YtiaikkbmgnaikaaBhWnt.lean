/- Package bloom: Wants at every selector. -/
import Derived.Test.YtiaikkbmgnaikaaBhSame
import Derived.Deep.Slices
namespace Go.Proofs.Ytiaikkbmgnaikaa.Bl
open Go Go.RowKit Go.Shelf Wg Sl Go.Proofs.Ytiaikkbmgnaikaa.Tre
attribute [local go_sem] Oper.semAt_some

set_option maxRecDepth 100000 in
set_option maxHeartbeats 1000000 in
theorem above_seq0 (n B cap : Nat) (p : Option Addr) (w : World) (hB : w.cell? ⟨B, 0, none⟩ = some (.slice p 0 cap)) :
    SeqD Fence.wide n Try.prog 41 #[.pointer (some ⟨B, 0, none⟩)] ccV (fun r => r = B) ([] : List Cc) w := by
  intro L J Jx D W hR hsz hRD hD hJ hJx hY h0
  have dB : W.cell? ⟨B, 0, none⟩ = some (.slice p 0 cap) := (World.cell?_of_block (a := ⟨B, 0, none⟩) (hR B rfl)).trans hB
  have HD : Hid (∀ r, D r → r < W.heap.size) := hD
  have H0 : Hid (J [] D W) := h0
  clear hY hD hRD hR hsz hB h0
  refine callsIn_of_wp Try.func41 rfl trivial ?_ rfl
  simp only [Try.ntmps41, List.size_toArray, List.length_cons, List.length_nil, Nat.reduceAdd, Nat.reduceSub, Array.replicate_succ, Array.replicate_zero, List.push_toArray, List.append_toArray, List.nil_append, List.cons_append]
  gi_wp2_with fail
  gi_loopw [3] (fun x wr => x = .int .i64 (-1) ∧ wr = W) (fun _ _ => 0)
  case atStart => exact ⟨by go_num, rfl⟩
  case round =>
    obtain ⟨rfl, rfl⟩ := hrel
    gi_wp2
    refine ⟨trivial, ?_⟩
    gi_wp2
    go_end0
    exact ⟨⟨_, rfl⟩, D, Fr.refl HD.out, .inl H0.out⟩

set_option maxRecDepth 100000 in
set_option maxHeartbeats 2000000 in
theorem wanted_seq0 (n : Nat) (hn : 6 ≤ n) (B cap : Nat) (p : Option Addr) (w : World) (hB : w.cell? ⟨B, 0, none⟩ = some (.slice p 0 cap)) :
    SeqD Fence.wide n Try.prog 33 #[.pointer (some ⟨B, 0, none⟩)] (fun x : Nat => #[.int .i64 x]) (fun r => r = B) ([] : List Nat) w := by
  intro L J Jx D W hR hsz hRD hD hJ hJx hY h0
  have dB : W.cell? ⟨B, 0, none⟩ = some (.slice p 0 cap) := (World.cell?_of_block (a := ⟨B, 0, none⟩) (hR B rfl)).trans hB
  have HD : Hid (∀ r, D r → r < W.heap.size) := hD
  have nB : ¬ D B := hRD _ rfl
  clear hY hD hRD hR hsz hB
  refine callsIn_of_wp_marks Try.func33 rfl trivial ?_ rfl
  simp only [Try.ntmps33, List.size_toArray, List.length_cons, List.length_nil, Nat.reduceAdd, Nat.reduceSub, Array.replicate_succ, Array.replicate_zero, List.push_toArray, List.append_toArray, List.nil_append, List.cons_append]
  obtain ⟨W1, hW1⟩ : ∃ W1, W.alloc (.cells #[.func (.yield L) #[] #[]] 50) = W1 := ⟨_, rfl⟩
  have F1 : Fr D D W W1 := by rw [← hW1]; exact (Fr.refl HD.out).alloc _
  have dB1 := F1.keep (p := ⟨B, 0, none⟩) nB dB
  have h1 : J [] D W1 := hJ _ _ _ _ h0 (by rw [← hW1]; exact (Kd.refl _ _).alloc _ HD.out)
  have s1 : W1.heap.size = W.heap.size + 1 := by rw [← hW1]; simp
  have hab := callsIn_wide (n := n - 1) |>.2 (above_any p 0 cap W1)
  have H1 : Hid (_ ∧ _ ∧ _) := ⟨F1, s1, h1⟩
  clear F1 s1 h1 h0 dB
  gi_wp2_with fail
  refine ⟨trivial, fun h => (by cases h), ?_⟩
  refine hab.mono ?_
  clear hab hW1 dB1
  rintro e W2 ⟨rfl, hW2⟩
  obtain ⟨F1, s1, h1⟩ := H1.out
  have b2 : Below W1.heap.size W1 W2 := by rw [hW2]; exact (Below.refl _ W1).alloc (Nat.le_refl _) _
  have s2 : W2.heap.size = W.heap.size + 2 := by rw [hW2]; simp; omega
  have cA : W2.cell? ⟨W1.heap.size, 0, none⟩ = some (.slice p 0 cap) := by rw [hW2]; exact (Boxed.new W1 _ _).cell
  have F2 : Fr D D W W2 := F1.next b2
  have h2 : J [] D W2 := hJ _ _ _ _ h1 (Kd.below b2 F1.lt)
  have HQ : Hid (_ ∧ _ ∧ _ ∧ _) := ⟨F2, s2, h2, cA⟩
  clear F1 s1 h1 b2 F2 s2 h2 cA hW2
  gi_wp2_with fail
  obtain ⟨F2, s2, h2, cA⟩ := HQ.out
  have eW1 : W1.heap.size = W.heap.size + 1 := (H1.out).2.1
  clear H1 HQ
  generalize W1.heap.size = A1 at *
  have HA1 : Hid (A1 = W.heap.size + 1) := eW1
  clear eW1
  refine wpIn_rangeFunc_D rfl (by omega) (gf := 41) (lb := #[.pointer (some ⟨A1, 0, none⟩)]) rfl trivial egAbove (above_seq0 (n - 1) A1 cap p W2 cA) (fun _ => rfl)
    (fun _ E X => J [] E X) (fun _ _ _ _ => False)
    (fun t E X Y hi hk => hJ _ _ _ _ hi hk) (fun c t E X Y hi hk => hi) D (fun r e => by have := HD.out r e; omega)
    (fun r hr e => by
      have := HD.out r e
      have h9 : A1 = W.heap.size + 1 := HA1.out
      have h8 : r = A1 := hr
      omega)
    (fun r hr => ⟨by
      have h9 : A1 = W.heap.size + 1 := HA1.out
      have h8 : r = A1 := hr
      omega, rfl⟩) (Nat.le_refl _) h2
    (fun _ _ _ _ _ => True)
    ?hAx ?assign ?body ?done ?stop
  case hAx => exact fun _ _ _ _ _ _ _ _ _ => trivial
  case assign =>
    intro l' pre x D1 Wx K hi hfr hK
    have HK : Hid (∀ a' D2 W', Fr D1 D2 Wx W' → _ → K a' W') := hK
    have hlt := hfr.lt
    clear hK
    gi_wp2
    refine HK.out _ (fun r => D1 r ∨ r = Wx.heap.size) _ ?_ trivial
    exact ((Fr.refl hlt).alloc _).names (fun _ h => h) (fun r hr => by
      rcases hr with hr | rfl
      · exact ⟨.inl hr, by simp; have := hlt r hr; omega⟩
      · exact ⟨.inr (.inr (Nat.le_refl _)), by simp⟩)
  case body =>
    intro l' pre x post D2 a' X heq
    simp at heq
  case done =>
    intro E X hi hfr hK hnE
    gi_wp2
    refine ⟨by simp, .inl ⟨_, _, rfl, run_takeDeferred hK, ?_⟩⟩
    exact ⟨_, results_none rfl _ _ _, ⟨_, rfl⟩, E, (F2.trans hfr).put _ (.inr (by omega)), .inl (hJ _ _ _ _ hi ((Kd.refl _ _).put _ hnE))⟩
  case stop =>
    rintro c pre x post E X heq
    simp at heq

theorem num_base {b b' : Nat} {W : World} {v : Value} {xs : List Nat} (h : NumRow b W v xs) (hb : b' ≤ b) : NumRow b' W v xs := by
  rcases h.2 with ⟨e1, e2⟩ | ⟨g, cap, cur, e1, e2, e3⟩
  · exact ⟨h.1, .inl ⟨e1, e2⟩⟩
  · exact ⟨h.1, .inr ⟨g, cap, cur, e1, by omega, e3⟩⟩

set_option maxRecDepth 100000 in
/-- The wanted hashes, collected. -/
theorem collect_wants (d : Nat) (B cap : Nat) (p : Option Addr) (s : Sel) (w : World) (hB : w.cell? ⟨B, 0, none⟩ = some (.slice p s.length cap)) (hv : PartsR d w.heap.size w (.slice p s.length cap) s) (hz : NamesOk s) (hl : (wantsV s).length ≤ 1099511627776) :
    Calls Try.prog 22 #[.func (.func 33) #[] #[.pointer (some ⟨B, 0, none⟩)]] w fun e w' => ∃ v, e = .returned v ∧ NumRow w.heap.size w' v (wantsV s) ∧ Below w.heap.size w w' := by
  have hBlt : B < w.heap.size := World.block_lt_of_cell? w ⟨B, 0, none⟩ hB
  cases hs : s with
  | nil =>
    subst hs
    exact collect_D 6 _ _ [] (fun r => r = B) w (by simp) egWanted (fun r hr => by have h8 : r = B := hr; omega) (wanted_seq0 6 (by omega) B cap p w hB)
  | cons q0 s0 =>
    rw [← hs]
    have hm : s.length = s0.length + 1 := by rw [hs]; rfl
    generalize s0.length = m at hm
    clear hs q0 s0
    have hmx : m + 1 ≤ maxLen := by rw [← hm]; exact RowT.short hv
    have hp : ∃ b off, p = some ⟨b, off, none⟩ := by
      obtain ⟨q, hq⟩ : ∃ q, s[0]? = some q := ⟨_, List.getElem?_eq_getElem (by omega)⟩
      obtain ⟨b, off, _, _, _, _, e, _⟩ := PartsR.get hv hq
      exact ⟨b, off, e⟩
    obtain ⟨b, off, rfl⟩ := hp
    have : Inhabited Cc := ⟨⟨.mk ⟨#[]⟩ [] [] [] [], none, 0, none, 0, none, 0, 0, none, 0, 0⟩⟩
    obtain ⟨F, hF⟩ := Deep.choose_lt (n := s.length) (fun j hj => part_in hv hz hj)
    have e : (aboveX F s m).flatMap (fun x => cpNames x.cp) = wantsV s := by
      rw [wantsV, hm, Nat.add_sub_cancel, ← aboveX_cp (F := F) (fun j hj => (hF j hj).cp), List.flatMap_map]
    have hq := wanted_seq 6 (by omega) B b off cap m s hm hmx F w (by rw [← hm]; exact hB) hF
    rw [e] at hq
    refine collect_D 6 _ _ (wantsV s) _ w hl egWanted (fun r hr => ?_) hq
    rcases hr with rfl | rfl | ⟨j, hj, ⟨h1, h2⟩ | ⟨h1, h2⟩⟩
    · exact hBlt
    · exact World.block_lt_of_cell? w ⟨r, _, none⟩ (hF 0 (by omega)).c1
    · exact (hF j hj).names.ids.lt h2 h1
    · exact (hF j hj).names.classes.lt h2 h1

set_option maxRecDepth 100000 in
/-- bloom.Wants AT EVERY SELECTOR. -/
theorem wants_any (d : Nat) (v : Value) (s : Sel) (w : World) (hv : PartsR d w.heap.size w v s) (hz : NamesOk s) (hl : (wantsV s).length ≤ 1099511627776) :
    Calls Try.prog 8 #[.agg #[v]] w fun e w' => ∃ x, e = .returned x ∧ NumRow w.heap.size w' x (wantsV s) ∧ Below w.heap.size w w' := by
  obtain ⟨p, cap, rfl⟩ := RowT.len hv
  obtain ⟨w1, hw1⟩ : ∃ w1, w.alloc (.cells #[.slice p s.length cap] 34) = w1 := ⟨_, rfl⟩
  have b1 : Below w.heap.size w w1 := by rw [← hw1]; exact (Below.refl _ w).alloc (Nat.le_refl _) _
  have c1 : w1.cell? ⟨w.heap.size, 0, none⟩ = some (.slice p s.length cap) := by rw [← hw1]; exact (Boxed.new w _ _).cell
  obtain ⟨w2, hw2⟩ : ∃ w2, w1.alloc (.cells #[.slice p s.length cap] 34) = w2 := ⟨_, rfl⟩
  have b2 : Below w1.heap.size w1 w2 := by rw [← hw2]; exact (Below.refl _ w1).alloc (Nat.le_refl _) _
  have c2 : w2.cell? ⟨w1.heap.size, 0, none⟩ = some (.slice p s.length cap) := by rw [← hw2]; exact (Boxed.new w1 _ _).cell
  have B2 := below_next b1 b2
  have hcol := collect_wants d w1.heap.size cap p s w2 c2 ((PartsR.below hv B2).mono B2.size) hz hl
  have hwa := wanted_any p s.length cap w1
  rw [hw2] at hwa
  have HB : Hid (Below _ _ _) := B2
  clear hv hz hl b1 b2 c2 B2 hw2
  go_enter Try.func8, Try.ntmps8
  go_wp2_with fail
  go_at_call 23
  refine Calls.mono hwa ?_
  clear hwa hw1 c1
  rintro e w' ⟨rfl, hww⟩
  obtain rfl := hww.symm
  clear hww
  go_wp2_with fail
  go_at_call 22
  refine Calls.mono hcol ?_
  clear hcol
  rintro e w3 ⟨v, rfl, h1, h2⟩
  obtain ⟨q, c, rfl⟩ := owns_form h1
  go_wp2
  go_ret
  exact ⟨_, rfl, num_base h1 HB.out.size, below_next HB.out h2⟩

end Go.Proofs.Ytiaikkbmgnaikaa.Bl
