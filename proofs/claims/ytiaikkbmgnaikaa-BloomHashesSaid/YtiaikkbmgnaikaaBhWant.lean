/- Package bloom: Wants at every selector. -/
import Derived.Test.YtiaikkbmgnaikaaBhAbove
namespace Go.Proofs.Ytiaikkbmgnaikaa.Bl
open Go Go.RowKit Go.Shelf Wg Sl Go.Proofs.Ytiaikkbmgnaikaa.Tre
attribute [local go_sem] Oper.semAt_some

set_option maxRecDepth 100000 in
theorem above_any (p : Option Addr) (m cap : Nat) (w : World) :
    Calls Try.prog 34 #[.agg #[.slice p m cap]] w fun e w' => e = .returned (.func (.func 41) #[] #[.pointer (some ⟨w.heap.size, 0, none⟩)]) ∧ w' = w.alloc (.cells #[.slice p m cap] 34) := by
  go_enter Try.func34, Try.ntmps34
  go_wp2
  go_ret
  exact ⟨rfl, rfl⟩
theorem egWanted : ∀ args w, (callFunc 33 args).run Try.prog w = .ok (.enter 33 args) w := enters_of Try.func33 (by kernel_rfl) rfl

theorem SeqD.inRound {α : Type} {n : Nat} {P : Program} {g : Nat} {lb : Array Value} {encs : α → Array Value} {R : Nat → Prop} {xs : List α} {w : World} (l : Nat) (h : SeqD Fence.wide n P g lb encs R xs w) : SeqD (Fence.wide.inRound l) n P g lb encs R xs w := h
/-- The parts of a selector that lie in memory: what is wanted of them. -/
structure WantAt (W : World) (b off : Nat) (s : Sel) (F : Nat → Cc) : Prop where
  part : ∀ j, j < s.length → PartAt W b off s j (F j)
/-- The blocks that are read. -/
def WantR (B b : Nat) (s : Sel) (F : Nat → Cc) (r : Nat) : Prop := r = B ∨ r = b ∨ ∃ j, j < s.length ∧ (((F j).v1.ownBlock = some r ∧ (F j).cp.ids ≠ []) ∨ ((F j).v2.ownBlock = some r ∧ (F j).cp.classes ≠ []))

set_option maxRecDepth 100000 in
set_option maxHeartbeats 2000000 in
theorem wanted_seq (n : Nat) (hn : 6 ≤ n) (B b off cap m : Nat) (s : Sel) (hs : s.length = m + 1) (hmx : m + 1 ≤ maxLen) (F : Nat → Cc) (w : World) (hB : w.cell? ⟨B, 0, none⟩ = some (.slice (some ⟨b, off, none⟩) (m + 1) cap)) (hF : ∀ j, j < s.length → PartAt w b off s j (F j)) :
    SeqD Fence.wide n Try.prog 33 #[.pointer (some ⟨B, 0, none⟩)] (fun x : Nat => #[.int .i64 x]) (WantR B b s F) ((aboveX F s m).flatMap (fun x => cpNames x.cp)) w := by
  intro L J Jx D W hR hsz hRD hD hJ hJx hY h0
  have dB : W.cell? ⟨B, 0, none⟩ = some (.slice (some ⟨b, off, none⟩) (m + 1) cap) := (World.cell?_of_block (a := ⟨B, 0, none⟩) (hR B (.inl rfl))).trans hB
  have hBlt : B < w.heap.size := World.block_lt_of_cell? w ⟨B, 0, none⟩ hB
  have hblt : b < w.heap.size := World.block_lt_of_cell? w ⟨b, off + 0 * 6 + 1, none⟩ (hF 0 (by omega)).c1
  have HY : Hid (∀ pre x post D1 W1, (aboveX F s m).flatMap (fun x => cpNames x.cp) = pre ++ x :: post → J pre D1 W1 → Fr D D1 W W1 → YieldAt Fence.wide (n - 1) Try.prog L #[.int .i64 (x : Nat)] W1 fun e W' =>
      (e = .returned (.bool true) ∧ ∃ D', J (pre ++ [x]) D' W' ∧ Fr D1 D' W1 W') ∨ (e = .returned (.bool false) ∧ ∃ D', Jx (pre ++ [x]) D' W' ∧ Fr D1 D' W1 W')) := hY
  have HD : Hid (∀ r, D r → r < W.heap.size) := hD
  -- the names of each compound, in every later world
  have HN : Hid (∀ x ∈ aboveX F s m, ∀ X E, Fr D E W X → x.At X ∧ (∀ r, ((x.v1.ownBlock = some r ∧ x.cp.ids ≠ []) ∨ (x.v2.ownBlock = some r ∧ x.cp.classes ≠ [])) → r < W.heap.size ∧ ¬ D r)) := fun x hx X E fr => by
    obtain ⟨j, hj, rfl⟩ := aboveX_mem (by omega) hx
    obtain ⟨t1, t2, t3⟩ := (hF j hj).names
    have keep : ∀ r, r < w.heap.size → WantR B b s F r → X.heap[r]? = w.heap[r]? := fun r h1 h2 => (fr.block r (by omega) (hRD r h2)).trans (hR r h2)
    exact ⟨⟨t1, t2.kept (fun r h1 h2 => keep r (t2.lt h2 h1) (.inr (.inr ⟨j, hj, .inl ⟨h1, h2⟩⟩))), t3.kept (fun r h1 h2 => keep r (t3.lt h2 h1) (.inr (.inr ⟨j, hj, .inr ⟨h1, h2⟩⟩)))⟩,
      fun r hr => ⟨by
        have : r < w.heap.size := hr.elim (fun h => t2.lt h.2 h.1) (fun h => t3.lt h.2 h.1)
        omega, hRD r (.inr (.inr ⟨j, hj, hr⟩))⟩⟩
  have HF : Hid (∀ X E, Fr D E W X → ∀ j, j < s.length → PartAt X b off s j (F j)) := fun X E fr j hj => by
    have h1 := hF j hj
    have hk : X.heap[b]? = w.heap[b]? := (fr.block b (by omega) (hRD b (.inr (.inl rfl)))).trans (hR b (.inr (.inl rfl)))
    have kc : ∀ {o : Nat} {v : Value}, w.cell? ⟨b, o, none⟩ = some v → X.cell? ⟨b, o, none⟩ = some v := fun {o v} h => (World.cell?_of_block (a := ⟨b, o, none⟩) hk).trans h
    obtain ⟨t1, t2, t3⟩ := h1.names
    have keep : ∀ r, r < w.heap.size → WantR B b s F r → X.heap[r]? = w.heap[r]? := fun r h1 h2 => (fr.block r (by omega) (hRD r h2)).trans (hR r h2)
    exact ⟨h1.cp, fun q hq => kc (h1.comb q hq), kc h1.c1, kc h1.c2, kc h1.c3, kc h1.c4, kc h1.c5, ⟨t1, t2.kept (fun r h1 h2 => keep r (t2.lt h2 h1) (.inr (.inr ⟨j, hj, .inl ⟨h1, h2⟩⟩))), t3.kept (fun r h1 h2 => keep r (t3.lt h2 h1) (.inr (.inr ⟨j, hj, .inr ⟨h1, h2⟩⟩)))⟩⟩
  have nB : ¬ D B := hRD _ (.inl rfl)
  have nb : ¬ D b := hRD _ (.inr (.inl rfl))
  have lB : B < W.heap.size ∧ b < W.heap.size := ⟨by omega, by omega⟩
  have HS : Hid (_ ∧ _) := ⟨hs, hmx⟩
  clear hY hD hRD hR hsz hB hF hBlt hblt hs hmx
  refine callsIn_of_wp_marks Try.func33 rfl trivial ?_ rfl
  simp only [Try.ntmps33, List.size_toArray, List.length_cons, List.length_nil, Nat.reduceAdd, Nat.reduceSub, Array.replicate_succ, Array.replicate_zero, List.push_toArray, List.append_toArray, List.nil_append, List.cons_append]
  obtain ⟨W1, hW1⟩ : ∃ W1, W.alloc (.cells #[.func (.yield L) #[] #[]] 50) = W1 := ⟨_, rfl⟩
  have bY : W1.cell? ⟨W.heap.size, 0, none⟩ = some (.func (.yield L) #[] #[]) := by rw [← hW1]; exact (Boxed.new W _ _).cell
  have F1 : Fr D D W W1 := by rw [← hW1]; exact (Fr.refl HD.out).alloc _
  have dB1 := F1.keep (p := ⟨B, 0, none⟩) nB dB
  have h1 : J [] D W1 := hJ _ _ _ _ h0 (by rw [← hW1]; exact (Kd.refl _ _).alloc _ HD.out)
  have s1 : W1.heap.size = W.heap.size + 1 := by rw [← hW1]; simp
  have hab := callsIn_wide (n := n - 1) |>.2 (above_any (some ⟨b, off, none⟩) (m + 1) cap W1)
  have H1 : Hid (_ ∧ _ ∧ _ ∧ _) := ⟨F1, s1, h1, bY⟩
  clear F1 s1 h1 bY h0 dB
  gi_wp2_with fail
  refine ⟨trivial, fun h => (by cases h), ?_⟩
  refine hab.mono ?_
  clear hab hW1 dB1
  rintro e W2 ⟨rfl, hW2⟩
  obtain ⟨F1, s1, h1, bY⟩ := H1.out
  have b2 : Below W1.heap.size W1 W2 := by rw [hW2]; exact (Below.refl _ W1).alloc (Nat.le_refl _) _
  have s2 : W2.heap.size = W.heap.size + 2 := by rw [hW2]; simp; omega
  have cA : W2.cell? ⟨W1.heap.size, 0, none⟩ = some (.slice (some ⟨b, off, none⟩) (m + 1) cap) := by rw [hW2]; exact (Boxed.new W1 _ _).cell
  have F2 : Fr D D W W2 := F1.next b2
  have h2 : J [] D W2 := hJ _ _ _ _ h1 (Kd.below b2 F1.lt)
  have cY : W2.cell? ⟨W.heap.size, 0, none⟩ = some (.func (.yield L) #[] #[]) := (b2.cell (p := ⟨W.heap.size, 0, none⟩) (by simp; omega)).trans bY
  have HQ : Hid (_ ∧ _ ∧ _ ∧ _ ∧ _) := ⟨F2, s2, h2, cY, cA⟩
  clear F1 s1 h1 bY b2 F2 s2 h2 cY cA hW2
  gi_wp2_with fail
  obtain ⟨F2, s2, h2, cY, cA⟩ := HQ.out
  obtain ⟨hs, hmx⟩ := HS.out
  have HDW : Hid (∀ r, D r → r < W.heap.size) := HD
  have eW1 : W1.heap.size = W.heap.size + 1 := (H1.out).2.1
  clear H1 HQ
  generalize W1.heap.size = A1 at *
  have HA1 : Hid (A1 = W.heap.size + 1) := eW1
  clear eW1
  refine wpIn_rangeFunc_D rfl (by omega) (gf := 41) (lb := #[.pointer (some ⟨A1, 0, none⟩)]) rfl trivial egAbove (above_seq (n - 1) A1 b off cap m s hs hmx F W2 cA (HF.out W2 D F2)) (fun _ => rfl)
    (fun pre E X => J (pre.flatMap (fun x => cpNames x.cp)) E X) (fun c _ E X => c = .ret ∧ ∃ pre x post, (aboveX F s m).flatMap (fun x => cpNames x.cp) = pre ++ x :: post ∧ Jx (pre ++ [x]) E X)
    (fun t E X Y hi hk => hJ _ _ _ _ hi hk) (fun c t E X Y hi hk => ⟨hi.1, by obtain ⟨p1, x1, q1, e1, j1⟩ := hi.2; exact ⟨p1, x1, q1, e1, hJx _ _ _ _ j1 hk⟩⟩) D (fun r e => by have := HD.out r e; omega)
    (fun r hr e => by
      have := HD.out r e
      have h9 : A1 = W.heap.size + 1 := HA1.out
      rcases hr with h8 | h8
      · omega
      · exact nb (h8 ▸ e))
    (fun r hr => ⟨by
      have h9 : A1 = W.heap.size + 1 := HA1.out
      rcases hr with h8 | h8 <;> omega, rfl⟩) (Nat.le_refl _) h2
    (fun pre x E2 a' X => ∃ B2 E1, (∀ r, E2 r ↔ E1 r ∨ r = B2) ∧ ¬ E1 B2 ∧ J (pre.flatMap (fun x => cpNames x.cp)) E1 X ∧ Blk X B2 60 [.string x.cp.tag, .slice x.pi x.cp.ids.length x.ci, .slice x.pc x.cp.classes.length x.cc, .slice x.pa x.ma x.ca, .slice x.pp x.mp x.cq] ∧
      a' = { tmps := #[.func (.yield L) #[] #[], .pointer (some ⟨B, 0, none⟩), .pointer (some ⟨W.heap.size, 0, none⟩), .pointer (some ⟨B2, 0, none⟩), undef, .agg #[.slice (some ⟨b, off, none⟩) (m + 1) cap], .func (.func 41) #[] #[.pointer (some ⟨A1, 0, none⟩)], .agg #[.string x.cp.tag, .slice x.pi x.cp.ids.length x.ci, .slice x.pc x.cp.classes.length x.cc, .slice x.pa x.ma x.ca, .slice x.pp x.mp x.cq], undef, undef, undef, undef, undef, undef, undef, undef, undef, undef, undef, undef], defers := [] })
    ?hAx ?assign ?body ?done ?stop
  case hAx =>
    rintro t x a' _ E2 X Y ⟨B2, E1, e1, e2, e3, e4, e5⟩ hk
    exact ⟨B2, E1, e1, e2, hJ _ _ _ _ e3 ⟨hk.os, hk.tape, hk.output, hk.size, fun r hr => hk.same r ((e1 r).2 (.inl hr))⟩, (hk.same B2 ((e1 B2).2 (.inr rfl))).trans e4, e5⟩
  case assign =>
    intro l' pre x D1 Wx K hi hfr hK
    have HK : Hid (∀ a' D2 W', Fr D1 D2 Wx W' → _ → K a' W') := hK
    have hlt := hfr.lt
    clear hK
    gi_wp2
    refine HK.out _ (fun r => D1 r ∨ r = Wx.heap.size) _ ?_ ⟨Wx.heap.size, D1, fun _ => Iff.rfl, fun e => by have := hlt _ e; omega, hJ _ _ _ _ hi ((Kd.refl _ _).alloc _ hlt), Blk.new Wx _ _, rfl⟩
    exact ((Fr.refl hlt).alloc _).names (fun _ h => h) (fun r hr => by
      rcases hr with hr | rfl
      · exact ⟨.inl hr, by simp; have := hlt r hr; omega⟩
      · exact ⟨.inr (.inr (Nat.le_refl _)), by simp⟩)
  case body =>
    rintro l' pre x post D2 a' X heq ⟨B2, E1, hE, hnB, hJ1, hb, rfl⟩ hfr ⟨r0, hl0⟩ hnl hlw
    have hX : Fr D D2 W X := F2.trans hfr
    have hE1 : Fr D E1 W X := hX.names (fun _ h => h) (fun r hr => ⟨.inl ((hE r).2 (.inl hr)), hX.lt r ((hE r).2 (.inl hr))⟩)
    obtain ⟨hAt, hOwn⟩ := HN.out x (by rw [heq]; simp) X E1 hE1
    have hh := hashes_of x.cp.tag x.v1 x.v2 x.cp.ids x.cp.classes X hAt.tag hAt.ids hAt.classes
    obtain ⟨⟨c0, c1, c2, _, _⟩, _⟩ := blk5 hb
    have HX : Hid (_ ∧ _ ∧ _) := ⟨hE1, hOwn, hb.lt⟩
    have HE : Hid (∀ r, D2 r ↔ E1 r ∨ r = B2) := hE
    have HFR : Hid (Fr D D2 W2 X) := hfr
    have hlX : l' < X.heap.size := (Array.getElem?_eq_some_iff.1 hl0).1
    have HP : Hid (∀ pre2 y post2, cpNames x.cp = pre2 ++ y :: post2 → (aboveX F s m).flatMap (fun x => cpNames x.cp) = (pre.flatMap (fun x => cpNames x.cp) ++ pre2) ++ y :: (post2 ++ post.flatMap (fun x => cpNames x.cp))) := fun pre2 y post2 e => by rw [heq]; simp [e]
    obtain ⟨pf, hpf⟩ : ∃ pf, pf = pre.flatMap (fun x => cpNames x.cp) := ⟨_, rfl⟩
    rw [← hpf] at hJ1 HP
    have HPF : Hid ((pre ++ [x]).flatMap (fun x => cpNames x.cp) = pf ++ cpNames x.cp) := by show _ = _; rw [hpf]; simp
    clear heq hAt hOwn hX hE1 hE hfr hb hpf
    gi_wp2_with fail
    refine ⟨trivial, fun h => (by cases h), ?_⟩
    refine (CallsIn.inRound l' (callsIn_wide.2 hh)).mono ?_
    clear hh
    rintro e X3 ⟨lb, R, rfl, bb, hR, hseq⟩
    have hl3 : X3.heap[l']? = some (.loop r0) := (bb.block l' hlX).trans hl0
    have hJ3 : J pf E1 X3 := hJ _ _ _ _ hJ1 (Kd.below bb HX.out.1.lt)
    have fr3 : Fr D E1 W X3 := HX.out.1.next bb
    have HB3 : Hid (_ ∧ _ ∧ _) := ⟨bb, hR, fr3⟩
    have HSQ : Hid (∀ n, SeqD Fence.wide n Try.prog 43 lb (fun x : Nat => #[.int .i64 x]) R (namesV x.cp.tag x.cp.ids x.cp.classes) X3) := hseq
    clear bb hR hseq fr3 hJ1 hl0 c0 c1 c2
    gi_wp2_with fail
    refine wpIn_rangeFunc_Dn (l₀ := l') (r₀ := r0) rfl hl3 (by omega) (gf := 43) (lb := lb) rfl trivial egHashes (SeqD.inRound l' (HSQ.out _)) (fun _ => rfl)
      (fun pre2 E X => J (pf ++ pre2) E X) (fun c _ E X => c = .ret ∧ ∃ pre x post, (aboveX F s m).flatMap (fun x => cpNames x.cp) = pre ++ x :: post ∧ Jx (pre ++ [x]) E X)
      (fun t E X Y hi hk => hJ _ _ _ _ hi hk) (fun c t E X Y hi hk => ⟨hi.1, by obtain ⟨p1, x1, q1, e1, j1⟩ := hi.2; exact ⟨p1, x1, q1, e1, hJx _ _ _ _ j1 hk⟩⟩) E1 HB3.out.2.2.lt
      (fun r hr e => by
        rcases (HB3.out.2.1 r hr).2 with h5 | h5
        · have := HX.out.1.lt r e; omega
        · have h6 := HX.out.2.1 r h5
          exact (HX.out.1.grow r e).elim h6.2 (fun e => by have := h6.1; omega))
      (fun r hr => ⟨(HB3.out.2.1 r hr).1, rfl⟩) (Nat.le_refl _) (by rw [List.append_nil]; exact hJ3)
      (fun pre2 y E a' X => J (pf ++ pre2) E X ∧ a' = { tmps := #[.func (.yield L) #[] #[], .pointer (some ⟨B, 0, none⟩), .pointer (some ⟨W.heap.size, 0, none⟩), .pointer (some ⟨B2, 0, none⟩), .int .i64 (y : Nat), .agg #[.slice (some ⟨b, off, none⟩) (m + 1) cap], .func (.func 41) #[] #[.pointer (some ⟨A1, 0, none⟩)], .agg #[.string x.cp.tag, .slice x.pi x.cp.ids.length x.ci, .slice x.pc x.cp.classes.length x.cc, .slice x.pa x.ma x.ca, .slice x.pp x.mp x.cq], .pointer (some ⟨B2, 0, none⟩), .string x.cp.tag, .pointer (some ⟨B2, 1, none⟩), .slice x.pi x.cp.ids.length x.ci, .pointer (some ⟨B2, 2, none⟩), .slice x.pc x.cp.classes.length x.cc, .func (.func 43) #[] lb, .int .i64 (y : Nat), undef, undef, undef, undef], defers := [] })
      (fun t y a' _ E X Y hi hk => ⟨hJ _ _ _ _ hi.1 hk, hi.2⟩) ?assign2 ?body2 ?done2 ?stop2
    case assign2 =>
      intro l'' pre2 y D1 Wx K hi hfr hK
      gi_wp2
      exact hK _ D1 _ (Fr.refl hfr.lt) ⟨hi, rfl⟩
    case body2 =>
      rintro l'' pre2 y post2 D3 a' Wx heq ⟨hi, rfl⟩ hfr _ hnl hlw
      have hyb : Wx.cell? ⟨W.heap.size, 0, none⟩ = some (.func (.yield L) #[] #[]) := by
        have h5 := HFR.out.keep (p := ⟨W.heap.size, 0, none⟩) (fun e => by have := HD.out _ e; simp at this) cY
        have h6 := (HB3.out.1.cell (p := ⟨W.heap.size, 0, none⟩) (World.block_lt_of_cell? X ⟨W.heap.size, 0, none⟩ h5)).trans h5
        exact hfr.keep (p := ⟨W.heap.size, 0, none⟩) (fun e => (HFR.out.grow _ ((HE.out _).2 (.inl e))).elim (fun e => by have := HD.out _ e; simp at this) (fun e => by simp at e; omega)) h6
      obtain ⟨fn, tmps, assign, body, hy, hRo⟩ := HY.out (pf ++ pre2) y (post2 ++ post.flatMap (fun x => cpNames x.cp)) D3 Wx (HP.out pre2 y post2 heq) hi (HB3.out.2.2.trans hfr)
      have HP2 : Hid (_ = _) := HP.out pre2 y post2 heq
      clear heq
      gi_wp2_with fail
      refine ⟨fun h => (by cases h), (roundAny hRo).mono ?_⟩
      clear hRo hy
      rintro e w3 (⟨rfl, D', hJ', fr⟩ | ⟨rfl, D', hJ', fr⟩)
      · gi_wp2
        exact ⟨D', (by show J (pf ++ (pre2 ++ [y])) D' w3; rw [← List.append_assoc]; exact hJ'), fr⟩
      · gi_wp2
        exact ⟨D', ⟨rfl, _, _, _, HP2.out, hJ'⟩, fr⟩
    case done2 =>
      intro E X4 hi hfr
      gi_wp2
      refine ⟨E, (by show J _ _ _; rw [HPF.out]; exact hi), ?_⟩
      exact ((Fr.of_below (D := E1) HB3.out.1 HX.out.1.lt).trans hfr).names (fun r hr => (HE.out r).2 (.inl hr)) (fun r hr => ⟨.inl hr, hfr.lt r hr⟩)
    case stop2 =>
      rintro c pre2 y post2 E X4 heq ⟨rfl, hx⟩ hfr
      gi_wp2
      exact ⟨E, ⟨rfl, hx⟩, ((Fr.of_below (D := E1) HB3.out.1 HX.out.1.lt).trans hfr).names (fun r hr => (HE.out r).2 (.inl hr)) (fun r hr => ⟨.inl hr, hfr.lt r hr⟩)⟩
  case done =>
    intro E X hi hfr hK hnE
    gi_wp2
    refine ⟨by simp, .inl ⟨_, _, rfl, run_takeDeferred hK, ?_⟩⟩
    exact ⟨_, results_none rfl _ _ _, ⟨_, rfl⟩, E, (F2.trans hfr).put _ (.inr (by omega)), .inl (hJ _ _ _ _ hi ((Kd.refl _ _).put _ hnE))⟩
  case stop =>
    rintro c pre x post E X heq ⟨rfl, p1, x1, q1, e1, j1⟩ hfr hK hnE
    gi_wp2
    refine ⟨by simp, .inl ⟨_, _, rfl, run_takeDeferred hK, ?_⟩⟩
    exact ⟨_, results_none rfl _ _ _, ⟨_, rfl⟩, E, (F2.trans hfr).put _ (.inr (by omega)), .inr ⟨p1, x1, q1, e1, hJx _ _ _ _ j1 ((Kd.refl _ _).put _ hnE)⟩⟩

end Go.Proofs.Ytiaikkbmgnaikaa.Bl
