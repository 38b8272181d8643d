/- Package bloom: countersOf and countersOfAll as iterators. -/
import Derived.Test.YtiaikkbmgnaikaaBlMem
namespace Go.Proofs.Ytiaikkbmgnaikaa.Bl
open Go Go.RowKit Go.Shelf
attribute [local go_sem] Oper.semAt_some

theorem egCtr : ∀ args w, (callFunc 40 args).run Try.prog w = .ok (.enter 40 args) w := enters_of Try.func40 (by kernel_rfl) rfl
theorem egAll : ∀ args w, (callFunc 37 args).run Try.prog w = .ok (.enter 37 args) w := enters_of Try.func37 (by kernel_rfl) rfl

/-- The two boxes that countersOf lays. -/
def twoB (h : Int) (w : World) : World := (w.alloc (.cells #[.int .u32 (firstV h)] 63)).alloc (.cells #[.int .u32 (secondV h)] 63)

set_option maxRecDepth 100000 in
theorem countersOf_in (n : Nat) (h : Int) (w : World) :
    CallsIn Fence.wide n Try.prog 31 #[.int .i64 h] w fun e w' => e = .returned (.func (.func 40) #[] #[.pointer (some ⟨w.heap.size, 0, none⟩), .pointer (some ⟨w.heap.size + 1, 0, none⟩)]) ∧ w' = twoB h w := by
  refine callsIn_of_wp Try.func31 rfl trivial ?_ rfl
  simp only [Try.ntmps31, List.size_toArray, List.length_cons, List.length_nil, Nat.reduceAdd, Nat.reduceSub, Array.replicate_succ, Array.replicate_zero, List.push_toArray, List.append_toArray, List.nil_append, List.cons_append]
  have h1 : h % 1024 = (firstV h : Int) := by unfold firstV loV; omega
  have h2 : h % 4294967296 / 1024 % 1024 = (secondV h : Int) := by unfold secondV loV; omega
  have H1 : Hid (_ = _) := h1
  have H2 : Hid (_ = _) := h2
  clear h1 h2
  gi_wp2
  go_ret
  refine ⟨rfl, ?_⟩
  rw [H1.out, H2.out]
  rfl
theorem countersOf_any (h : Int) (w : World) :
    Calls Try.prog 31 #[.int .i64 h] w fun e w' => e = .returned (.func (.func 40) #[] #[.pointer (some ⟨w.heap.size, 0, none⟩), .pointer (some ⟨w.heap.size + 1, 0, none⟩)]) ∧ w' = twoB h w :=
  callsIn_wide.1 (countersOf_in 1 h w)
theorem twoB_below (h : Int) (w : World) : Below w.heap.size w (twoB h w) := ((Below.refl _ w).alloc (Nat.le_refl _) _).alloc (by simp) _
theorem twoB_size (h : Int) (w : World) : (twoB h w).heap.size = w.heap.size + 2 := by simp [twoB]
theorem twoB_cells (h : Int) (w : World) : (twoB h w).cell? ⟨w.heap.size, 0, none⟩ = some (.int .u32 (firstV h)) ∧ (twoB h w).cell? ⟨w.heap.size + 1, 0, none⟩ = some (.int .u32 (secondV h)) := by
  constructor
  · exact (Boxed.new w 63 (.int .u32 (firstV h))).kept (World.grownBy_alloc _ _ none) (by simp) |>.cell
  · have := (Boxed.new (w.alloc (.cells #[.int .u32 (firstV h)] 63)) 63 (.int .u32 (secondV h))).cell
    rw [World.size_alloc] at this
    exact this

/-- countersOf's iterator. -/
theorem ctr_seq (n : Nat) (h : Int) (b1 b2 : Nat) (w : World) (c1 : w.cell? ⟨b1, 0, none⟩ = some (.int .u32 (firstV h))) (c2 : w.cell? ⟨b2, 0, none⟩ = some (.int .u32 (secondV h))) :
    SeqD Fence.wide n Try.prog 40 #[.pointer (some ⟨b1, 0, none⟩), .pointer (some ⟨b2, 0, none⟩)] (fun x : Nat => #[.int .u32 x]) (fun r => r = b1 ∨ r = b2) (ctrs h) w := by
  intro l J Jx D W hR hs hRD hD hJ hJx hY h0
  have d1 : W.cell? ⟨b1, 0, none⟩ = some (.int .u32 (firstV h)) := (World.cell?_of_block (a := ⟨b1, 0, none⟩) (hR b1 (.inl rfl))).trans c1
  have d2 : W.cell? ⟨b2, 0, none⟩ = some (.int .u32 (secondV h)) := (World.cell?_of_block (a := ⟨b2, 0, none⟩) (hR b2 (.inr rfl))).trans c2
  clear c1 c2 hR hs
  refine callsIn_of_wp Try.func40 rfl trivial ?_ rfl
  simp only [Try.ntmps40, List.size_toArray, List.length_cons, List.length_nil, Nat.reduceAdd, Nat.reduceSub, Array.replicate_succ, Array.replicate_zero, List.push_toArray, List.append_toArray, List.nil_append, List.cons_append]
  obtain ⟨post, hp⟩ : ∃ post, ctrs h = [] ++ firstV h :: post := by unfold ctrs; split; exact ⟨[], rfl⟩; exact ⟨_, rfl⟩
  obtain ⟨fn, tmps, assign, body, hy, hRo⟩ := hY [] (firstV h) post D W hp h0 (Fr.refl hD)
  have HP : Hid (_ = _) := hp
  have HY : Hid (∀ pre x post D1 W1, ctrs h = pre ++ x :: post → J pre D1 W1 → Fr D D1 W W1 → YieldAt Fence.wide (n - 1) Try.prog l #[.int .u32 (x : Nat)] W1 fun e W' =>
      (e = .returned (.bool true) ∧ ∃ D', J (pre ++ [x]) D' W' ∧ Fr D1 D' W1 W') ∨ (e = .returned (.bool false) ∧ ∃ D', Jx (pre ++ [x]) D' W' ∧ Fr D1 D' W1 W')) := hY
  have e1 := hRD b1 (.inl rfl)
  have e2 := hRD b2 (.inr rfl)
  clear hp hY hRD
  gi_wp2_with fail
  refine ⟨fun h => (by cases h), hRo.mono ?_⟩
  clear hRo hy
  rintro e w2 (⟨rfl, D', hJ', fr⟩ | ⟨rfl, D', hJ', fr⟩)
  · have g1 := fr.keep (p := ⟨b1, 0, none⟩) e1 d1
    have g2 := fr.keep (p := ⟨b2, 0, none⟩) e2 d2
    by_cases hc : secondV h = firstV h
    · have hb : ((secondV h : Int) != (firstV h : Int)) = false := by simp [hc]
      have HC : Hid (ctrs h = [] ++ [firstV h]) := if_pos hc
      clear hc d1 d2
      gi_wp2
      go_end0
      exact ⟨⟨_, rfl⟩, D', fr, .inl (by rw [show ctrs h = _ from HC.out]; exact hJ')⟩
    · have hb : ((secondV h : Int) != (firstV h : Int)) = true := bne_iff_ne.2 (by omega)
      have HC : Hid (ctrs h = [firstV h] ++ [secondV h]) := if_neg hc
      obtain ⟨fn, tmps, assign, body, hy, hRo⟩ := HY.out [firstV h] (secondV h) [] D' w2 HC.out hJ' fr
      clear hc d1 d2
      gi_wp2_with fail
      refine ⟨fun h => (by cases h), hRo.mono ?_⟩
      clear hRo hy
      rintro e w3 (⟨rfl, D2, hJ2, fr2⟩ | ⟨rfl, D2, hJ2, fr2⟩)
      · gi_wp2
        go_end0
        exact ⟨⟨_, rfl⟩, D2, fr.trans fr2, .inl (by rw [show ctrs h = _ from HC.out]; exact hJ2)⟩
      · gi_wp2
        go_end0
        exact ⟨⟨_, rfl⟩, D2, fr.trans fr2, .inr ⟨_, _, _, HC.out, hJ2⟩⟩
  · gi_wp2
    go_end0
    exact ⟨⟨_, rfl⟩, D', fr, .inr ⟨_, _, _, HP.out, hJ'⟩⟩

end Go.Proofs.Ytiaikkbmgnaikaa.Bl

/- Package bloom: countersOfAll as an iterator. -/
namespace Go.Proofs.Ytiaikkbmgnaikaa.Bl
open Go Go.RowKit Go.Shelf
attribute [local go_sem] Oper.semAt_some

theorem take_flat {l : List Int} {k : Nat} {h : Int} (hk : l[k]? = some h) : (l.take (k + 1)).flatMap ctrs = (l.take k).flatMap ctrs ++ ctrs h := by
  have hlt : k < l.length := (List.getElem?_eq_some_iff.1 hk).1
  rw [List.take_add_one, hk]; simp
theorem flat_split {l : List Int} {k : Nat} {h : Int} (hk : l[k]? = some h) : ∃ r, l.flatMap ctrs = (l.take k).flatMap ctrs ++ (ctrs h ++ r) := by
  refine ⟨(l.drop (k + 1)).flatMap ctrs, ?_⟩
  rw [← List.append_assoc, ← take_flat hk, ← List.flatMap_append, List.take_append_drop]

set_option maxRecDepth 100000 in
set_option maxHeartbeats 2000000 in
/-- countersOfAll's iterator. -/
theorem all_seq (n : Nat) (hn : 3 ≤ n) (B : Nat) (v : Value) (l : List Int) (w : World) (hB : w.cell? ⟨B, 0, none⟩ = some v) (hl : IntsR w v l) :
    SeqD Fence.wide n Try.prog 37 #[.pointer (some ⟨B, 0, none⟩)] (fun x : Nat => #[.int .u32 x]) (fun r => r = B ∨ (v.ownBlock = some r ∧ l ≠ [])) (l.flatMap ctrs) w := by
  intro L J Jx D W hR hs hRD hD hJ hJx hY h0
  have hBlt := World.block_lt_of_cell? w ⟨B, 0, none⟩ hB
  have dB : W.cell? ⟨B, 0, none⟩ = some v := (World.cell?_of_block (a := ⟨B, 0, none⟩) (hR B (.inl rfl))).trans hB
  have dl : IntsR W v l := by
    by_cases h0 : l = []
    · subst h0; obtain ⟨p, c, rfl⟩ := hl.len; exact .inl ⟨rfl, _, _, rfl⟩
    · exact hl.kept (fun r hr => hR r (.inr ⟨hr, h0⟩))
  clear hB hl hR
  have HY : Hid (∀ pre x post D1 W1, l.flatMap ctrs = pre ++ x :: post → J pre D1 W1 → Fr D D1 W W1 → YieldAt Fence.wide (n - 1) Try.prog L #[.int .u32 (x : Nat)] W1 fun e W' =>
      (e = .returned (.bool true) ∧ ∃ D', J (pre ++ [x]) D' W' ∧ Fr D1 D' W1 W') ∨ (e = .returned (.bool false) ∧ ∃ D', Jx (pre ++ [x]) D' W' ∧ Fr D1 D' W1 W')) := hY
  have HRD : Hid (∀ r, (r = B ∨ (v.ownBlock = some r ∧ l ≠ [])) → ¬ D r) := hRD
  have HD : Hid (∀ r, D r → r < W.heap.size) := hD
  have HDL : Hid (IntsR W v l) := dl
  obtain ⟨p, cap, rfl⟩ := dl.len
  have hsh := dl.short
  unfold maxLen at hsh
  clear hY hRD hD dl hs
  refine callsIn_of_wp_marks Try.func37 rfl trivial ?_ rfl
  simp only [Try.ntmps37, List.size_toArray, List.length_cons, List.length_nil, Nat.reduceAdd, Nat.reduceSub, Array.replicate_succ, Array.replicate_zero, List.push_toArray, List.append_toArray, List.nil_append, List.cons_append]
  obtain ⟨W1, hW1⟩ : ∃ W1, W.alloc (.cells #[.func (.yield L) #[] #[]] 86) = W1 := ⟨_, rfl⟩
  have bY : W1.cell? ⟨W.heap.size, 0, none⟩ = some (.func (.yield L) #[] #[]) := by rw [← hW1]; exact (Boxed.new W _ _).cell
  have F1 : Fr D D W W1 := by rw [← hW1]; exact (Fr.refl HD.out).alloc _
  have hBD : ¬ D B := HRD.out B (.inl rfl)
  have dB1 := F1.keep (p := ⟨B, 0, none⟩) hBD dB
  have h1 : J [] D W1 := hJ _ _ _ _ h0 (by rw [← hW1]; exact (Kd.refl _ _).alloc _ HD.out)
  have hs1 : W.heap.size < W1.heap.size := by rw [← hW1]; simp
  have HS1 : Hid (W.heap.size < W1.heap.size) := hs1
  have HF1 : Hid (Fr D D W W1) := F1
  clear dB h0 hBlt hs1 F1 hBD
  gi_wp2
  clear hW1 dB1
  refine wpIn_loop (fun a x => ∃ (k : Nat) (Dk : Nat → Prop) (rs : List Nat) (u4 u9 u10 u11 u12 u13 u19 : Value), k ≤ l.length ∧ J ((l.take k).flatMap ctrs) Dk x ∧ Fr D Dk W x ∧ W.heap.size < x.heap.size ∧ ¬ Dk W.heap.size ∧ x.cell? ⟨W.heap.size, 0, none⟩ = some (.func (.yield L) #[] #[]) ∧
      (rs.Nodup ∧ ∀ r ∈ rs, x.heap[r]? = some (.deferred (some [])) ∧ W.heap.size ≤ r ∧ ¬ Dk r) ∧
      a = { tmps := #[.func (.yield L) #[] #[], .pointer (some ⟨B, 0, none⟩), .pointer (some ⟨W.heap.size, 0, none⟩), undef, u4, undef, .slice p l.length cap, .int .i64 l.length, .int .i64 k, u9, u10, u11, u12, u13, undef, undef, undef, undef, undef, u19], defers := marks rs })
    (fun (a : Act) _ => l.length - (intOf (a.tmps.getD 8 undef)).toNat) ⟨0, D, [], _, _, _, _, _, _, _, Nat.zero_le _, h1, HF1.out, HS1.out, fun h => by have := HD.out _ h; omega, bY, ⟨List.nodup_nil, fun r hr => by simp at hr⟩, rfl⟩ ?_
  clear bY h1 HS1 HF1
  rintro a x ⟨k, Dk, rs, u4, u9, u10, u11, u12, u13, u19, hk, hJk, hFk, hsx, hnY, cY, hrs, rfl⟩
  have HRS : Hid (_ ∧ _) := hrs
  have HFk : Hid (Fr D Dk W x) := hFk
  clear hrs
  by_cases hkl : k = l.length
  · have hlt : decide (k < l.length) = false := by simp; omega
    have HJ : Hid (J (l.flatMap ctrs) Dk x) := by
      rw [hkl, List.take_length] at hJk
      exact hJk
    clear hJk hk hkl
    gi_wp2
    refine leaves_marks rs x HRS.out.1 (fun r hr => (HRS.out.2 r hr).1) (fun w' hw' => ?_)
    exact ⟨_, results_none rfl _ _ _, ⟨_, rfl⟩, Dk, Fr.marks HFk.out hw' (fun r hr => (HRS.out.2 r hr).2.1), .inl (hJ _ _ _ _ HJ.out ⟨hw'.os, hw'.tape, hw'.output, hw'.size, fun r hr => hw'.same r (fun e => (HRS.out.2 r e).2.2 hr)⟩)⟩
  · have hlt : decide (k < l.length) = true := by simp; omega
    obtain ⟨h, hx⟩ : ∃ h, l[k]? = some h := ⟨_, List.getElem?_eq_getElem (by omega)⟩
    obtain ⟨r, hr⟩ := flat_split hx
    have HR : Hid (_ = _) := hr
    have HT : Hid (_ = _) := take_flat hx
    have hne : l ≠ [] := fun e => by subst e; simp at hx
    have hxl := HDL.out.kept (Y := x) (fun r hr => hFk.block r (HDL.out.lt hne hr) (HRD.out r (.inr ⟨hr, hne⟩)))
    obtain ⟨b, off, rfl, _, _, hcell⟩ := hxl.get hx
    obtain ⟨pf, hpf⟩ : ∃ pf, pf = (l.take k).flatMap ctrs := ⟨_, rfl⟩
    rw [← hpf] at hJk
    have HPF : Hid (_ = _) := hpf
    have hkl' : k < l.length := by omega
    have hki : (k : Int) < (l.length : Int) := by omega
    have hbk : 0 ≤ (k : Int) := by omega
    clear hr hx hne hxl hpf hkl hk
    gi_wp2_with fail
    refine ⟨trivial, fun h => (by cases h), ?_⟩
    refine (countersOf_in _ h x).mono ?_
    rintro e w2 ⟨rfl, rfl⟩
    have T1 := twoB_below h x
    have T2 := twoB_size h x
    obtain ⟨T3, T4⟩ := twoB_cells h x
    generalize twoB h x = X2 at *
    have fX : Fr D Dk W X2 := hFk.next T1
    have cY2 : X2.cell? ⟨W.heap.size, 0, none⟩ = some (.func (.yield L) #[] #[]) := (T1.cell (p := ⟨W.heap.size, 0, none⟩) hsx).trans cY
    have hJ2 : J pf Dk X2 := hJ _ _ _ _ hJk (Kd.below T1 hFk.lt)
    have HFX : Hid (Fr D Dk W X2) := fX
    have HT1 : Hid (_ ∧ _ ∧ _) := ⟨T1, T2, hFk.lt⟩
    have HC : Hid (_ ∧ _) := ⟨T3, T4⟩
    clear T1 T2 T3 T4 hcell fX hFk hJk cY
    gi_wp2_with fail
    refine wpIn_rangeFunc_D rfl (by omega) (gf := 40) (lb := #[.pointer (some ⟨x.heap.size, 0, none⟩), .pointer (some ⟨x.heap.size + 1, 0, none⟩)]) rfl trivial egCtr (ctr_seq (n - 1) h x.heap.size (x.heap.size + 1) X2 HC.out.1 HC.out.2) (fun _ => rfl)
      (fun pre E X => J (pf ++ pre) E X) (fun c pre E X => c = .ret ∧ Jx (pf ++ pre) E X) (fun s E X Y hi hk => hJ _ _ _ _ hi hk) (fun c s E X Y hi hk => ⟨hi.1, hJx _ _ _ _ hi.2 hk⟩) Dk (fun r e => HFX.out.lt r e)
      (fun r hr e => by have := HT1.out.2.2 r e; omega) (fun r hr => ⟨by have := HT1.out.2.1; omega, rfl⟩) (Nat.le_refl _) (by rw [List.append_nil]; exact hJ2)
      (fun pre y E a' X => J (pf ++ pre) E X ∧ a' = { tmps := #[.func (.yield L) #[] #[], .pointer (some ⟨B, 0, none⟩), .pointer (some ⟨W.heap.size, 0, none⟩), undef, .int .i64 h, .int .u32 (y : Nat), .slice (some ⟨b, off, none⟩) l.length cap, .int .i64 l.length, .int .i64 k, .bool true, .pointer (some ⟨b, off + k, none⟩), .int .i64 h, .int .i64 h, .func (.func 40) #[] #[.pointer (some ⟨x.heap.size, 0, none⟩), .pointer (some ⟨x.heap.size + 1, 0, none⟩)], .int .u32 (y : Nat), undef, undef, undef, undef, u19], defers := [] })
      (fun s y a' _ E X Y hi hk => ⟨hJ _ _ _ _ hi.1 hk, hi.2⟩) ?assign ?body ?done ?stop
    case assign =>
      intro l' pre y D1 Wx K hi hfr hK
      gi_wp2
      exact hK _ D1 _ (Fr.refl hfr.lt) ⟨hi, rfl⟩
    case body =>
      rintro l' pre y post D2 a' Wx heq ⟨hi, rfl⟩ hfr _ hnl hlw
      have cY' := hfr.keep (p := ⟨W.heap.size, 0, none⟩) hnY cY2
      obtain ⟨fn, tmps, assign, body, hy, hRo⟩ := HY.out (pf ++ pre) y (post ++ r) D2 Wx (by rw [HR.out, HPF.out, heq]; simp) hi (HFX.out.trans hfr)
      clear heq cY2 hlt
      gi_wp2_with fail
      refine ⟨fun h => (by cases h), (roundAny hRo).mono ?_⟩
      clear hRo hy
      rintro e w3 (⟨rfl, D', hJ', fr⟩ | ⟨rfl, D', hJ', fr⟩)
      · gi_wp2
        exact ⟨D', (by show J (pf ++ (pre ++ [y])) D' w3; rw [← List.append_assoc]; exact hJ'), fr⟩
      · gi_wp2
        exact ⟨D', ⟨rfl, (by show Jx (pf ++ (pre ++ [y])) D' w3; rw [← List.append_assoc]; exact hJ')⟩, fr⟩
    case done =>
      intro E X hi hfr hK hnE
      gi_wp2
      have T2 := HT1.out.2.1
      have T3 := hfr.size
      refine ⟨⟨k + 1, E, X2.heap.size :: rs, _, _, _, _, _, _, _, by omega, ?_, HFX.out.trans hfr, by omega, fun e => (hfr.grow _ e).elim hnY (fun e => by omega), hfr.keep (p := ⟨W.heap.size, 0, none⟩) hnY cY2, ⟨?_, ?_⟩, rfl⟩, ?_⟩
      · rw [HT.out, ← HPF.out]; exact hi
      · refine List.nodup_cons.2 ⟨fun e => ?_, HRS.out.1⟩
        have := (Array.getElem?_eq_some_iff.1 (HRS.out.2 _ e).1).1
        omega
      · intro r' hr'
        rcases List.mem_cons.1 hr' with rfl | hr'
        · exact ⟨hK, by omega, hnE⟩
        · obtain ⟨q1, q2, q3⟩ := HRS.out.2 r' hr'
          have q4 := (Array.getElem?_eq_some_iff.1 q1).1
          exact ⟨(hfr.block r' (by omega) q3).trans ((HT1.out.1.block r' q4).trans q1), q2, fun e => (hfr.grow _ e).elim q3 (fun e => by omega)⟩
      · simp [intOf]; omega
    case stop =>
      rintro c pre y post E X heq ⟨rfl, hx⟩ hfr hK hnE
      have T2 := HT1.out.2.1
      have T3 := hfr.size
      gi_wp2
      have hall : ∀ r' ∈ X2.heap.size :: rs, X.heap[r']? = some (.deferred (some [])) ∧ W.heap.size ≤ r' ∧ ¬ E r' := by
        intro r' hr'
        rcases List.mem_cons.1 hr' with rfl | hr'
        · exact ⟨hK, by omega, hnE⟩
        · obtain ⟨q1, q2, q3⟩ := HRS.out.2 r' hr'
          have q4 := (Array.getElem?_eq_some_iff.1 q1).1
          exact ⟨(hfr.block r' (by omega) q3).trans ((HT1.out.1.block r' q4).trans q1), q2, fun e => (hfr.grow _ e).elim q3 (fun e => by omega)⟩
      refine leaves_marks (X2.heap.size :: rs) X ?_ (fun r hr => (hall r hr).1) (fun w' hw' => ?_)
      · refine List.nodup_cons.2 ⟨fun e => ?_, HRS.out.1⟩
        have := (Array.getElem?_eq_some_iff.1 (HRS.out.2 _ e).1).1
        omega
      · exact ⟨_, results_none rfl _ _ _, ⟨_, rfl⟩, E, Fr.marks (HFX.out.trans hfr) hw' (fun r hr => (hall r hr).2.1), .inr ⟨pf ++ pre, y, post ++ r, by rw [HR.out, HPF.out, heq]; simp, by
          rw [List.append_assoc]
          exact hJx _ _ _ _ hx ⟨hw'.os, hw'.tape, hw'.output, hw'.size, fun r hr => hw'.same r (fun e => (hall r e).2.2 hr)⟩⟩⟩

end Go.Proofs.Ytiaikkbmgnaikaa.Bl
