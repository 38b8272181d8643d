/- The document's own reader of selectors: one selector (selector), at every place. -/
import Derived.Test.YtgjjedodbgimfaaSrSe0
namespace Go.Proofs.Ytgjjedodbgimfaa.Sr
open Go.Proofs.Ytgjjedodbgimfaa.Tre
open Go Go.RowKit Sl

/-- What is known behind a compound, the white behind it passed over. -/
def Mid (L : Inner) (ts : List Bt) (U : Option (Sel × List Bt)) (s : Sel) (b b1 b2 : Nat) : Prop :=
  b1 ≤ b2 ∧ b2 ≤ ts.length ∧ ts.drop b2 = dropW (ts.drop b1) ∧
    ((b < b1 ∧ ∃ f, (ts.drop b).length < f ∧ U = match betwV (ts.drop b1) with
      | some y => partsV L (f - 1) y.1 s y.2
      | none => some (s, dropW (ts.drop b1))) ∨ (Fail U ∧ b2 = b1 ∧ isSg (at' ts b1) 46 = true))
theorem Mid.comb {L : Inner} {ts : List Bt} {a : Nat} {U : Option (Sel × List Bt)} {s : Sel} {b b1 b2 b3 : Nat} (h : Mid L ts U s b b1 b2) (hc : 0 < combV (at' ts b2)) (hd : ts.drop b3 = dropW (ts.drop (b2 + 1))) (hb3 : b3 ≤ ts.length) (h23 : b2 + 1 ≤ b3) (hab : a ≤ b) (hs : s.length ≤ b2 + 1) : SeV L ts a U (combV (at' ts b2)) s b3 ∧ b < b3 := by
  obtain ⟨h1, h2, h3, h4⟩ := h
  have hl : b2 < ts.length := by
    by_cases hl : b2 < ts.length
    · exact hl
    · rw [(at_none (ts := ts) (a := b2) (by omega)).2] at hc
      exact absurd hc (by decide)
  rcases h4 with ⟨h5, f, hf, hU⟩ | ⟨_, rfl, h6⟩
  · refine ⟨⟨by omega, hb3, by omega, .inl ⟨f - 1, ?_, ?_⟩⟩, by omega⟩
    · rw [List.length_drop] at hf ⊢; omega
    · rw [betw_at h3 h1 h2, if_neg (by omega), if_neg (by omega)] at hU
      rw [hU, hd]
  · have hk : (at' ts b2).kind = 10 ∧ (at' ts b2).c = 46 := by simpa [isSg] using h6
    unfold combV at hc
    simp [hk.1, hk.2] at hc
theorem Mid.ends {L : Inner} {ts : List Bt} {U : Option (Sel × List Bt)} {s : Sel} {b b1 b2 : Nat} (h : Mid L ts U s b b1 b2) (hc : combV (at' ts b2) = 0) (he : endsV ts b2 = true) : U = some (s, ts.drop b2) ∧ b < b2 ∧ b2 ≤ ts.length := by
  obtain ⟨h1, h2, h3, h4⟩ := h
  have he' : ts.length ≤ b2 ∨ (at' ts b2).kind = 13 ∨ (at' ts b2).kind = 17 := by simpa [endsV] using he
  rcases h4 with ⟨h5, f, hf, hU⟩ | ⟨_, rfl, h6⟩
  · refine ⟨?_, by omega, h2⟩
    rw [betw_at h3 h1 h2] at hU
    by_cases hl : ts.length ≤ b2
    · rw [if_pos hl] at hU
      rw [hU, h3]
    · have hnb : begC (at' ts b2) = false := by
        unfold begC begU isSg
        rcases he' with h | h | h
        · omega
        · simp [h]
        · simp [h]
      rw [if_neg hl, if_pos hc, if_neg (by simp [hnb])] at hU
      rw [hU, h3]
  · have hk : (at' ts b2).kind = 10 ∧ (at' ts b2).c = 46 := by simpa [isSg] using h6
    have : b2 < ts.length := at_lt (by rw [hk.1]; decide)
    omega
theorem Mid.fail {L : Inner} {ts : List Bt} {U : Option (Sel × List Bt)} {s : Sel} {b b1 b2 : Nat} (h : Mid L ts U s b b1 b2) (hc : combV (at' ts b2) = 0) (he : endsV ts b2 = false) (hnb : ¬ b1 < b2) : Fail U := by
  obtain ⟨h1, h2, h3, h4⟩ := h
  have he' : ¬ (ts.length ≤ b2 ∨ (at' ts b2).kind = 13 ∨ (at' ts b2).kind = 17) := by simpa [endsV] using he
  rcases h4 with ⟨h5, f, hf, hU⟩ | ⟨h6, _⟩
  · rw [betw_at h3 h1 h2, if_neg (by omega), if_pos hc, if_neg (fun h => hnb h.1)] at hU
    refine .inr ⟨s, at' ts b2, ts.drop (b2 + 1), ?_, by omega⟩
    rw [hU, ← h3, at_cons (by omega)]
  · exact h6
theorem Mid.on {L : Inner} {ts : List Bt} {a : Nat} {U : Option (Sel × List Bt)} {s : Sel} {b b1 b2 : Nat} (h : Mid L ts U s b b1 b2) (hc : combV (at' ts b2) = 0) (he : endsV ts b2 = false) (hb : b1 < b2) (hab : a ≤ b) (hs : s.length ≤ b2) : SeV L ts a U 1 s b2 ∧ b < b2 := by
  obtain ⟨h1, h2, h3, h4⟩ := h
  have he' : ¬ (ts.length ≤ b2 ∨ (at' ts b2).kind = 13 ∨ (at' ts b2).kind = 17) := by simpa [endsV] using he
  rcases h4 with ⟨h5, f, hf, hU⟩ | ⟨_, rfl, _⟩
  · rw [betw_at h3 h1 h2, if_neg (by omega), if_pos hc] at hU
    by_cases hg : begC (at' ts b2) = true
    · rw [if_pos ⟨hb, hg⟩] at hU
      refine ⟨⟨by omega, h2, hs, .inl ⟨f - 1, ?_, hU.symm⟩⟩, by omega⟩
      rw [List.length_drop] at hf ⊢; omega
    · rw [if_neg (fun h => hg h.2)] at hU
      refine ⟨⟨by omega, h2, hs, .inr ⟨by simpa using hg, .inr ⟨s, at' ts b2, ts.drop (b2 + 1), ?_, by omega⟩⟩⟩, by omega⟩
      rw [hU, ← h3, at_cons (by omega)]
  · omega
theorem Mid.mk' {L : Inner} {ts : List Bt} {a : Nat} {U : Option (Sel × List Bt)} {comb : Int} {pre : Sel} {b b1 b2 : Nat} {c : Cp} (h : SeV L ts a U comb pre b) (h12 : b1 ≤ b2) (hb1 : b1 ≤ ts.length) (hb2 : b2 ≤ ts.length ∨ b2 = b1) (hd : ts.drop b2 = dropW (ts.drop b1)) (hv : (compV L (ts.drop b) = some (c, ts.drop b1)) ∨ (compV L (ts.drop b) = none ∧ isSg (at' ts b1) 46 = true)) : Mid L ts U (pre ++ [(comb, c)]) b b1 b2 := by
  refine ⟨h12, by omega, hd, ?_⟩
  rcases hv with hv | ⟨hv, hs⟩
  · obtain ⟨f, hf, hU⟩ := h.some hv
    have := compV_lt hv
    rw [List.length_drop, List.length_drop] at this
    exact .inl ⟨by omega, f, hf, hU⟩
  · refine .inr ⟨h.none hv, ?_, hs⟩
    have hk : (at' ts b1).kind = 10 ∧ (at' ts b1).c = 46 := by simpa [isSg] using hs
    have hl : b1 < ts.length := at_lt (by rw [hk.1]; decide)
    have h0 : dropW (ts.drop b1) = ts.drop b1 := by
      rw [at_cons hl]
      unfold dropW
      rw [List.dropWhile_cons, if_neg (by simp [hk.1])]
    rw [h0] at hd
    have := congrArg List.length hd
    rw [List.length_drop, List.length_drop] at this
    omega

set_option maxRecDepth 100000 in
set_option maxHeartbeats 4000000 in
theorem selector_any (n₀ R : Nat) (v : Value) (ts : List Bt) (a d : Nat) (w : World) (hP : Pk n₀ w R v ts a false (8 - (d : Int))) (ha : a ≤ ts.length) (hG : Sl.Good ts) (hI : InOK n₀ d) :
    Calls Try.prog 38 #[.pointer (some ⟨R, 0, none⟩)] w (SelOut n₀ R v ts d w a (partsV (innerV d) ((ts.drop a).length + 1) 0 [] (ts.drop a))) := by
  have hlm := hP.most
  have hR := hP.lt
  obtain ⟨W2, hW2⟩ : ∃ W2, (w.alloc (.cells #[nilS] 25)).alloc (.cells #[nilS] 25) = W2 := ⟨_, rfl⟩
  have b0 : Below w.heap.size w W2 := by rw [← hW2]; exact ((Below.refl _ w).alloc (Nat.le_refl _) _).alloc (by rw [World.size_alloc]; omega) _
  have kZ : Blk W2 w.heap.size 25 [nilS] := by rw [← hW2]; exact (Blk.new w 25 _).kept (World.grownBy_alloc _ _ none) (by simp)
  have kQ : Blk W2 (w.heap.size + 1) 25 [nilS] := by
    have := Blk.new (w.alloc (.cells #[nilS] 25)) 25 [nilS]
    rw [World.size_alloc] at this
    rw [← hW2]
    exact this
  have S0 : SeSt n₀ R v ts d w [] nilS a false W2 := ⟨kZ, kQ, UndRow.nil _ _ _ _ _ _, hP.below b0, But.of_below b0, hR⟩
  clear b0 kZ kQ hP
  have HG : Hid (Sl.Good ts) := hG
  have HI : Hid (InOK n₀ d) := hI
  clear hG hI
  obtain ⟨U, hU⟩ : ∃ U, partsV (innerV d) ((ts.drop a).length + 1) 0 [] (ts.drop a) = U := ⟨_, rfl⟩
  rw [hU]
  have hV0 : SeV (innerV d) ts a U 0 [] a := ⟨Nat.le_refl _, ha, Nat.zero_le _, .inl ⟨_, Nat.lt_succ_self _, hU⟩⟩
  clear hU
  go_enter Try.func38, Try.ntmps38
  go_wp2_with fail
  clear hW2
  go_loopw [4] (fun x wr => ∃ (comb : Int) (s : Sel) (y : Value) (b : Nat), x = .int .i64 comb ∧ SeSt n₀ R v ts d w s y b false wr ∧ SeV (innerV d) ts a U comb s b) (fun _ wr => (ts.length + 20) - placeOf wr R)
  case atStart => exact ⟨0, [], nilS, a, rfl, S0, hV0⟩
  case round =>
    clear S0 hV0
    obtain ⟨comb, s, y, b, rfl, S, HC⟩ := hrel
    obtain ⟨qy, cy, rfl⟩ := S.r.form
    have hpl := S.pk.place
    have hbt : b ≤ ts.length := HC.2.1
    have hsb : s.length ≤ b := HC.2.2.1
    have hab : a ≤ b := HC.1
    obtain ⟨⟨p0, p1, p2, p3⟩, q0, q1, q2, q3⟩ := blk4 S.pk.blk
    have h1 := compound_any n₀ R v ts b d wr S.pk hbt HG HI
    go_upto_region 4 with fail
    clear p0 p1 p2 p3 q0 q1 q2 q3
    go_wp2_with fail
    refine h1.mono ?_
    clear h1
    rintro e w2 ⟨c, i, k, a', p, b1, bad, rfl, hcp, hP2, hbb, hres, hb2⟩
    have hmQ : w.heap.size + 1 < wr.heap.size := S.q.lt
    have hmy : Hid (∀ g, (Value.slice qy s.length cy).ownBlock = some g → g < wr.heap.size) := fun g hg => (S.r.lt hg).2
    replace S := S.go hP2 hb2
    clear hb2
    obtain ⟨qi, mi, ci, rfl⟩ : ∃ q m c, i = .slice q m c := by obtain ⟨_, _, _, _, e, h1, h2, h3, h4⟩ := hcp; cases e; obtain ⟨q, c, h, _⟩ := FinRow.form h1; exact ⟨_, _, _, h⟩
    obtain ⟨qk, mk, ck, rfl⟩ : ∃ q m c, k = .slice q m c := by obtain ⟨_, _, _, _, e, h1, h2, h3, h4⟩ := hcp; cases e; obtain ⟨q, c, h, _⟩ := FinRow.form h2; exact ⟨_, _, _, h⟩
    obtain ⟨qa, ma, ca, rfl⟩ : ∃ q m c, a' = .slice q m c := by obtain ⟨_, _, _, _, e, h1, h2, h3, h4⟩ := hcp; cases e; obtain ⟨q, c, h, _⟩ := FinRow.form h3; exact ⟨_, _, _, h⟩
    obtain ⟨qp, mp, cp, rfl⟩ : ∃ q m c, p = .slice q m c := by obtain ⟨_, _, _, _, e, h1, h2, h3, h4⟩ := hcp; cases e; obtain ⟨q, c, h, _⟩ := FinRow.form h4; exact ⟨_, _, _, h⟩
    have bA : Below w2.heap.size w2 (w2.alloc (.cells #[.string c.tag, .slice qi mi ci, .slice qk mk ck, .slice qa ma ca, .slice qp mp cp] 30)) := (Below.refl _ _).alloc (Nat.le_refl _) _
    have kA : Blk (w2.alloc (.cells #[.string c.tag, .slice qi mi ci, .slice qk mk ck, .slice qa ma ca, .slice qp mp cp] 30)) w2.heap.size 30 [.string c.tag, .slice qi mi ci, .slice qk mk ck, .slice qa ma ca, .slice qp mp cp] := Blk.new w2 30 _
    replace S := S.below bA
    have fA : Fr (fun b => wr.heap.size ≤ b) (fun b => wr.heap.size ≤ b) w2 _ := Fr.of_below bA (fun b hb _ => hb)
    replace hcp := hcp.fr fA (fun _ _ hq => SelsAt.fr d hq fA)
    clear bA fA hP2
    go_upto_region 5 with fail
    generalize w2.alloc (.cells #[.string c.tag, .slice qi mi ci, .slice qk mk ck, .slice qa ma ca, .slice qp mp cp] 30) = w3 at *
    obtain ⟨css, r1, r2, r3, r4⟩ := S.r
    obtain ⟨i0, hi, hz0, hz1, hz2⟩ := info_parts infoPt3
    obtain ⟨⟨x0, x1, x2, x3, x4⟩, _⟩ := blk5 kA
    obtain ⟨y0, e0⟩ := blk1 S.q
    have bE : Below w3.heap.size w3 (w3.alloc (.cells #[.int .i64 comb, .string c.tag, .slice qi mi ci, .slice qk mk ck, .slice qa ma ca, .slice qp mp cp] 32)) := (Below.refl _ _).alloc (Nat.le_refl _) _
    have fE : Fr (fun b => wr.heap.size ≤ b) (fun b => wr.heap.size ≤ b) w3 _ := Fr.of_below bE (fun b hb _ => hb)
    have hcpE := hcp.fr fE (fun _ _ hq => SelsAt.fr d hq fE)
    have hR4 : (w3.alloc (.cells #[.int .i64 comb, .string c.tag, .slice qi mi ci, .slice qk mk ck, .slice qa ma ca, .slice qp mp cp] 32)).ownsRow (w.heap.size + 1) 32 6 (.slice qy s.length cy) s.length css.flatten := owns_same r1 (fun g hg => bE.block g (owns_lt r1 hg).2)
    have H1 : ∀ u ∈ ([.int .i64 comb, .string c.tag, .slice qi mi ci, .slice qk mk ck, .slice qa ma ca, .slice qp mp cp] : List Value), u.oneCell' = true := fun u hu => by simp at hu; rcases hu with rfl | rfl | rfl | rfl | rfl | rfl <;> rfl
    have m1 : s.length + 1 ≤ maxLen := by unfold maxLen; omega
    have m2 : (s.length + 1) * 120 ≤ 140737488355328 := by omega
    have hSZ : w.heap.size + 1 ≤ (w3.alloc (.cells #[.int .i64 comb, .string c.tag, .slice qi mi ci, .slice qk mk ck, .slice qa ma ca, .slice qp mp cp] 32)).heap.size := by rw [World.size_alloc]; have := S.q.lt; omega
    have HB7 : Hid (∀ w7, (w3.alloc (.cells #[.int .i64 comb, .string c.tag, .slice qi mi ci, .slice qk mk ck, .slice qa ma ca, .slice qp mp cp] 32)).grownBy w7 (Value.slice qy s.length cy).ownBlock → Blk w7 (w.heap.size + 1) 25 [.slice qy s.length cy]) := fun w7 hg => (S.below bE).q.kept hg (fun e => (S.below bE).r.off (S.below bE).q (by decide) e.symm)
    have HF : Hid (∀ (w7 : World) (g7 c7 : Nat), w7.ownsRow (w.heap.size + 1) 32 6 (.slice (some ⟨g7, 0, none⟩) (s.length + 1) c7) (s.length + 1) (css.flatten ++ [.int .i64 comb, .string c.tag, .slice qi mi ci, .slice qk mk ck, .slice qa ma ca, .slice qp mp cp]) → (w3.alloc (.cells #[.int .i64 comb, .string c.tag, .slice qi mi ci, .slice qk mk ck, .slice qa ma ca, .slice qp mp cp] 32)).grownBy w7 (Value.slice qy s.length cy).ownBlock → ((Value.slice qy s.length cy).ownBlock = some g7 ∨ g7 = (w3.alloc (.cells #[.int .i64 comb, .string c.tag, .slice qi mi ci, .slice qk mk ck, .slice qa ma ca, .slice qp mp cp] 32)).heap.size) → SeSt n₀ R v ts d w (s ++ [(comb, c)]) (.slice (some ⟨g7, 0, none⟩) (s.length + 1) c7) b1 bad (w7.setCell ⟨w.heap.size + 1, 0, none⟩ (.slice (some ⟨g7, 0, none⟩) (s.length + 1) c7))) := fun w7 g7 c7 hown hg hat =>
      S.push bE r2 r3 r4 (cells := [.string c.tag, .slice qi mi ci, .slice qk mk ck, .slice qa ma ca, .slice qp mp cp]) rfl hcpE hmQ hmy hown hg (fun g hg' => by rw [slot_own hg']; exact hat.imp id (fun h => by rw [h]; exact Nat.le_refl _))
    clear S bE fE r1 r2 r3 r4 kA hcp hcpE
    go_upto_region 6 with (at_builtin; refine wpList_append_lies (w3.alloc (.cells #[.int .i64 comb, .string c.tag, .slice qi mi ci, .slice qk mk ck, .slice qa ma ca, .slice qp mp cp] 32)) rfl _ _ 23 rfl (w.heap.size + 1) 32 i0 (.agg #[.int .i64 0, .string ⟨#[]⟩, .slice none 0 0, .slice none 0 0, .slice none 0 0, .slice none 0 0]) 6 120 Try.underlying23 hi hz0 hz1 hz2 rfl (by decide) (.slice qy s.length cy) _ _ rfl hR4 ⟨w3.heap.size, 0, none⟩ 1 1 [.int .i64 comb, .string c.tag, .slice qi mi ci, .slice qk mk ck, .slice qa ma ca, .slice qp mp cp] rfl rfl (cells_plain w3 [.int .i64 comb, .string c.tag, .slice qi mi ci, .slice qk mk ck, .slice qa ma ca, .slice qp mp cp] 32) H1 (by decide) m1 m2 hSZ _ rfl ?_; intro g7 c7 w7 hown7 hgrow7 hat7 hlt7; obtain ⟨y0, e0⟩ := blk1 ((show ∀ w7, _ → _ from HB7) w7 hgrow7))
    have S7 := (show ∀ (w7 : World) (g7 c7 : Nat), _ → _ → _ → _ from HF) _ _ _ hown7 hgrow7 hat7
    clear HF HB7 hown7 hgrow7 hat7 hlt7 y0 e0 hR4 H1 m1 m2 hSZ hi hz0 hz1 hz2 x0 x1 x2 x3 x4
    generalize World.setCell w7 ⟨w.heap.size + 1, 0, none⟩ _ = W8 at *
    have hb1t := S7.pk.least
    obtain ⟨⟨p0, p1, p2, p3⟩, q0, q1, q2, q3⟩ := blk4 S7.pk.blk
    cases bad with
    | true =>
      have HF : Fail U := by
        rcases hres with ⟨h, _⟩ | ⟨h, _⟩
        · cases h
        · exact HC.none h
      obtain ⟨z0, f0⟩ := blk1 S7.z
      obtain ⟨y0, e0⟩ := blk1 S7.q
      obtain ⟨hL, hO⟩ := S7.out (a := a) (by omega) (.inr ⟨rfl, HF⟩)
      clear hres HC HF HI HG
      go_wp2
      exact bodyPost_ret (results_struct rfl _ _ w.heap.size _ rfl hL) rfl hO
    | false =>
      have hv : ((compV (innerV d) (ts.drop b) = some (c, ts.drop b1)) ∨ (compV (innerV d) (ts.drop b) = none ∧ isSg (at' ts b1) 46 = true)) ∧ b1 ≤ ts.length := by
        rcases hres with ⟨_, h1, h2⟩ | ⟨h1, h2 | ⟨_, h2⟩⟩
        · exact ⟨.inl h1, h2⟩
        · cases h2
        · exact ⟨.inr ⟨h1, h2⟩, Nat.le_of_lt (at_lt (fun e => by simp [isSg, e] at h2))⟩
      have h1 := white_any n₀ R v ts b1 false (8 - (d : Int)) W8 S7.pk
      clear hres
      go_upto_region 8 with fail
      clear p0 p1 p2 p3 q0 q1 q2 q3
      go_wp2_with fail
      refine h1.mono ?_
      clear h1
      rintro e w9 ⟨b2, rfl, h12, hb2, hdb, hP9, hbut9⟩
      replace S7 := S7.go hP9 hbut9
      have HM : Mid (innerV d) ts U (s ++ [(comb, c)]) b b1 b2 := Mid.mk' HC h12 hv.2 hb2 hdb hv.1
      have hb2t : b2 ≤ ts.length := by omega
      have hsl : (s ++ [(comb, c)]).length ≤ b2 + 1 := by rw [List.length_append, List.length_singleton]; omega
      clear hv hb2 hdb hP9 hbut9 HC
      have h2 := comb_any n₀ R v ts b2 false (8 - (d : Int)) w9 S7.pk
      obtain ⟨cb, hcb⟩ : ∃ cb, combV (at' ts b2) = cb := ⟨_, rfl⟩
      rw [hcb] at h2
      have hcb0 : 0 ≤ cb ∧ cb ≤ 4 := by rw [← hcb]; unfold combV; split; decide; split; decide; split <;> decide
      go_wp2_with fail
      refine h2.mono ?_
      clear h2
      rintro e w10 ⟨rfl, b10⟩
      replace S7 := S7.below b10
      clear b10
      by_cases g0 : 0 < cb
      · obtain ⟨⟨p0, p1, p2, p3⟩, q0, q1, q2, q3⟩ := blk4 S7.pk.blk
        have hw1 : IntKind.i64.wrap ((b2 : Int) + 1) = (b2 : Int) + 1 := by rw [IntKind.wrap_i64]; omega
        have S8 := S7.at (b' := b2 + 1) (by omega)
        rw [show ((b2 + 1 : Nat) : Int) = (b2 : Int) + 1 by omega] at S8
        have hlt2 : b2 < ts.length := by
          by_cases hl : b2 < ts.length
          · exact hl
          · rw [(at_none (ts := ts) (a := b2) (by omega)).2] at hcb
            rw [← hcb] at g0
            exact absurd g0 (by decide)
        clear S7
        go_upto_region 12 with fail
        clear p0 p1 p2 p3 q0 q1 q2 q3
        generalize World.setCell w10 ⟨R, 1, none⟩ _ = W11 at *
        have h3 := white_any n₀ R v ts (b2 + 1) false (8 - (d : Int)) W11 S8.pk
        go_wp2_with fail
        refine h3.mono ?_
        clear h3
        rintro e w12 ⟨b3, rfl, h23, hb3, hd3, hP12, hbut12⟩
        have S9 := S8.go hP12 hbut12
        obtain ⟨HC', hlt⟩ := HM.comb (a := a) (by rw [hcb]; exact g0) hd3 (by omega) h23 hab hsl
        rw [hcb] at HC'
        have hms : ts.length + 20 - placeOf w12 R < ts.length + 20 - placeOf wr R := by rw [S9.pk.place, hpl]; omega
        clear S8 HM hd3 hP12 hbut12 hcb
        go_wp2
        exact ⟨⟨cb, _, _, b3, rfl, S9, HC'⟩, hms⟩
      · obtain rfl : 0 = cb := by omega
        clear g0 hcb0
        have h3 := ends_any n₀ R v ts b2 false (8 - (d : Int)) w10 S7.pk
        go_upto_region 13 with fail
        go_wp2_with fail
        refine h3.mono ?_
        clear h3
        rintro e w11 ⟨rfl, b11⟩
        replace S7 := S7.below b11
        clear b11
        cases hE : endsV ts b2 with
        | true =>
          obtain ⟨hU, hlt, hle⟩ := HM.ends hcb hE
          obtain ⟨z0, f0⟩ := blk1 S7.z
          obtain ⟨y0, e0⟩ := blk1 S7.q
          obtain ⟨hL, hO⟩ := S7.out (a := a) (U := U) (by omega) (.inl ⟨rfl, hU, hE, hle, by omega⟩)
          clear HM HI HG hU hE hcb
          go_wp2
          exact bodyPost_ret (results_struct rfl _ _ w.heap.size _ rfl hL) rfl hO
        | false =>
          by_cases hbk : b1 < b2
          · obtain ⟨HC', hlt⟩ := HM.on (a := a) hcb hE hbk hab (by rw [List.length_append, List.length_singleton]; omega)
            have hms : ts.length + 20 - placeOf w11 R < ts.length + 20 - placeOf wr R := by rw [S7.pk.place, hpl]; omega
            have hbk' : decide (b1 < b2) = true := decide_eq_true hbk
            clear HM HI HG hE hcb hbk
            go_wp2
            exact ⟨⟨1, _, _, b2, rfl, S7, HC'⟩, hms⟩
          · have HF : Fail U := HM.fail hcb hE hbk
            have hbk' : decide (b1 < b2) = false := decide_eq_false hbk
            obtain ⟨⟨p0, p1, p2, p3⟩, q0, q1, q2, q3⟩ := blk4 S7.pk.blk
            have S8 := S7.spoil true
            clear HM HI HG hE hcb hbk S7
            go_upto_region 18 with fail
            clear p0 p1 p2 p3 q0 q1 q2 q3
            generalize World.setCell w11 ⟨R, 2, none⟩ _ = W12 at *
            obtain ⟨z0, f0⟩ := blk1 S8.z
            obtain ⟨y0, e0⟩ := blk1 S8.q
            obtain ⟨hL, hO⟩ := S8.out (a := a) (U := U) (by omega) (.inr ⟨rfl, HF⟩)
            clear HF
            go_wp2
            exact bodyPost_ret (results_struct rfl _ _ w.heap.size _ rfl hL) rfl hO

end Go.Proofs.Ytgjjedodbgimfaa.Sr
