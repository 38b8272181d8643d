/- package match: foundOf: the verdicts of a part. -/
import Derived.Test.YtcicppadjipndaaGreatMtGx
import Derived.Test.YtcicppadjipndaaGreatMtGb
import Derived.Test.YtcicppadjipndaaGreatRgn
import Derived.WideLaws
namespace Go.Proofs.YtcicppadjipndaaGreat.Mt
open Go.Proofs.YtcicppadjipndaaGreat.Tre
open Go Go.RowKit Dm
def reps {α : Type} (n : Nat) (z : α) : List α := List.replicate n z
theorem reps_get {α : Type} {n i : Nat} {z x : α} (h : (reps n z)[i]? = some x) : x = z := by
  unfold reps at h
  rw [List.getElem?_replicate] at h
  split at h
  · exact (Option.some.inj h).symm
  · cases h
theorem reps_len {α : Type} (n : Nat) (z : α) : (reps n z).length = n := List.length_replicate ..
theorem made_one (z : Value) (n : Nat) : madeCells #[z] n = (reps n z).toArray := by
  apply Array.ext
  · simp [madeCells, reps]
  · intro i h1 h2
    simp [madeCells, Nat.mod_one, reps]
theorem infoRow : (Tryz.prog.info? 141).map (fun i => (i.zero, i.size, i.bytes)) = some (some (.slice none 0 0), 1, 24) := by kernel_rfl
theorem infoVd : (Tryz.prog.info? 143).map (fun i => (i.zero, i.size, i.bytes)) = some (some (.int .u8 0), 1, 1) := by kernel_rfl
theorem infoPtr : (Tryz.prog.info? 112).map (fun i => (i.zero, i.size, i.bytes)) = some (some (.pointer none), 1, 8) := by kernel_rfl
theorem make_of {t e : TypeId} {z : Value} {by_ : Nat} (ht : Tryz.prog.underlying t = some (.slice e)) (hinfo : (Tryz.prog.info? e).map (fun i => (i.zero, i.size, i.bytes)) = some (some z, 1, by_)) (hz : z.cells = #[z]) (n : Nat) (hn : n * by_ ≤ 281474976710656) (hn2 : n ≤ 9223372036854775807) (w : World) :
    (Instr.makeSlice t (.int .i64 n) (.int .i64 n)).run Tryz.prog w = .ok (wide w.heap.size n) (w.alloc (.cells (reps n z).toArray e)) := by
  obtain ⟨i0, hi, hz0, hz1, hz2⟩ := info_parts hinfo
  have := run_make w t e i0 z ht hi hz0 .i64 .i64 (n : Int) (n : Int) (by omega) (Int.le_refl _) (by rw [hz2, Int.mul_comm]; omega) (by omega)
  rw [this, Int.toNat_natCast, hz1, Nat.mul_one, hz, made_one]
  rfl
theorem eqInNil {t e : TypeId} (ht : Tryz.prog.underlying t = some (.slice e)) (d : Nat) (w : World) (p : Option Addr) (n c : Nat) : (Op.equalIn (d + 1) t (.slice p n c) (.slice none 0 0)).run Tryz.prog w = .ok p.isNone w := by
  cases p <;> simp [Op.equalIn, run_underlying ht]
theorem eqlNil {t e : TypeId} (ht : Tryz.prog.underlying t = some (.slice e)) (w : World) (p : Option Addr) (n c : Nat) : (binOp .eql t (.slice p n c) (.slice none 0 0)).run Tryz.prog w = .ok (.bool p.isNone) w := by
  simp only [binOp]
  simp [show Op.equal t (.slice p n c) (.slice none 0 0) = Op.equalIn (9999 + 1) t (.slice p n c) (.slice none 0 0) from rfl, eqInNil ht 9999 w p n c]
theorem blk_alloc {W : World} {B : Nat} {t : TypeId} {cs : List Value} (h : Blk W B t cs) (o : Obj) : Blk (W.alloc o) B t cs := h.next ((Below.refl _ W).alloc (Nat.le_refl _) o)
theorem step_outer {E : Env} {γ : Ghost} {W : World} (hI : Inv E γ W) {A : Nat} {s : Sel} {pv : Value} {f : Nat} (hA : γ A = some (.asked s pv f)) {lv : Value} (kA : Blk W A 79 [ptrV E.tb, pv, .slice none 0 0, lv])
    (hlv : lv = .map none ∨ ∃ M, lv = .map (some M) ∧ γ M = some (.mapr A)) :
    Step E γ W (addG γ W.heap.size (.outer A)) ((W.alloc (.cells (reps s.length (.slice none 0 0)).toArray 141)).setCell ⟨A, 2, none⟩ (wide W.heap.size s.length)) ∧
      Blk ((W.alloc (.cells (reps s.length (.slice none 0 0)).toArray 141)).setCell ⟨A, 2, none⟩ (wide W.heap.size s.length)) A 79 [ptrV E.tb, pv, wide W.heap.size s.length, lv] := by
  have hlt := hI.lt hA
  obtain ⟨hP, hf, _⟩ := (hI.each A _ hA).2.choose_spec.2
  have h1 : Step E γ W (addG γ W.heap.size (.outer A)) (W.alloc (.cells (reps s.length (.slice none 0 0)).toArray 141)) := by
    refine hI.add (Nat.le_refl _) ((Below.refl _ W).alloc (Nat.le_refl _) _) (heap_alloc_new W _) ⟨s, pv, f, ?_, _, rfl, reps_len _ _, fun k r hr => ?_⟩
    · exact addG_mono hI (Nat.le_refl _) _ _ _ hA
    · exact .inl (reps_get hr)
  have hA1 : addG γ W.heap.size (.outer A) A = some (.asked s pv f) := addG_mono hI (Nat.le_refl _) _ _ _ hA
  have k1 := blk_put (blk_alloc kA (.cells (reps s.length (.slice none 0 0)).toArray 141)) 2 (wide W.heap.size s.length)
  refine ⟨h1.trans (h1.inv.put hA1 (grown_set _ _ _ _) k1 ⟨hP, hf, _, _, rfl, .inr ⟨_, rfl, addG_same _ _ _⟩, ?_⟩), k1⟩
  rcases hlv with h | ⟨M, h, hM⟩
  · exact .inl h
  · exact .inr ⟨M, h, addG_mono hI (Nat.le_refl _) _ _ _ hM⟩
theorem step_verd {E : Env} {γ : Ghost} {W : World} (hI : Inv E γ W) {A F k : Nat} {s : Sel} {pv : Value} {f : Nat} (hA : γ A = some (.asked s pv f)) (hF : γ F = some (.outer A)) {rows : List Value} (kF : Blk W F 141 rows) (hk : k < s.length) :
    Step E γ W (addG γ W.heap.size (.verd A k)) ((W.alloc (.cells (reps E.qs.length (.int .u8 0)).toArray 143)).setCell ⟨F, k, none⟩ (wide W.heap.size E.qs.length)) ∧
      Blk ((W.alloc (.cells (reps E.qs.length (.int .u8 0)).toArray 143)).setCell ⟨F, k, none⟩ (wide W.heap.size E.qs.length)) F 141 (rows.set k (wide W.heap.size E.qs.length)) := by
  have h1 : Step E γ W (addG γ W.heap.size (.verd A k)) (W.alloc (.cells (reps E.qs.length (.int .u8 0)).toArray 143)) := by
    refine hI.add (Nat.le_refl _) ((Below.refl _ W).alloc (Nat.le_refl _) _) (heap_alloc_new W _) ⟨s, pv, f, addG_mono hI (Nat.le_refl _) _ _ _ hA, reps E.qs.length 0, ?_, reps_len _ _, fun x v hv => .inl (reps_get hv)⟩
    simp [reps]
  have hF1 : addG γ W.heap.size (.verd A k) F = some (.outer A) := addG_mono hI (Nat.le_refl _) _ _ _ hF
  obtain ⟨_, o, ho, s', pv', f', hA', rows', rfl, hr1, hr2⟩ := hI.each F _ hF
  rw [hA] at hA'
  cases hA'
  obtain rfl : rows' = rows := by
    rw [show W.heap[F]? = _ from kF] at ho
    injection ho with ho
    injection ho with ho
    simpa using ho.symm
  have k1 := blk_put (blk_alloc kF (.cells (reps E.qs.length (.int .u8 0)).toArray 143)) k (wide W.heap.size E.qs.length)
  refine ⟨h1.trans (h1.inv.put hF1 (grown_set _ _ _ _) k1 ⟨s, pv, f, addG_mono hI (Nat.le_refl _) _ _ _ hA, _, rfl, by simp [hr1], fun k' r hr => ?_⟩), k1⟩
  rcases set_at hr with ⟨rfl, rfl⟩ | ⟨_, hr⟩
  · exact .inr ⟨_, rfl, addG_same _ _ _⟩
  · rcases hr2 k' r hr with h | ⟨V, h, hV⟩
    · exact .inl h
    · exact .inr ⟨V, h, addG_mono hI (Nat.le_refl _) _ _ _ hV⟩
theorem cell_row {W : World} {F : Nat} {t : TypeId} {rows : List Value} (k : Blk W F t rows) {i : Nat} {r : Value} (h : rows[i]? = some r) : W.cell? ⟨F, i, none⟩ = some r ∧ W.frozen? ⟨F, i, none⟩ = false := by
  simp [World.cell?, World.frozen?, show W.heap[F]? = _ from k, h]
set_option maxRecDepth 100000 in
set_option maxHeartbeats 4000000 in
theorem foundOf_any (E : Env) (hE : EnvOk E) (γ : Ghost) (W : World) (hI : Inv E γ W) (A : Nat) (s : Sel) (pv : Value) (f : Nat) (hA : γ A = some (.asked s pv f)) (k : Nat) (hk : k < s.length) :
    Calls Tryz.prog 96 #[ptrV A, .int .i64 k] W fun x W' => ∃ V γ', x = .returned (wide V E.qs.length) ∧ γ' V = some (.verd A k) ∧ Step E γ W γ' W' := by
  obtain ⟨⟨d, hP⟩, hfit, fv, lv, kA, hfv, hlv⟩ := hI.asked hA
  have hs50 := fits_len hfit
  obtain ⟨pp, cp, rfl⟩ := RowT.len hP
  have hfew := hE.few
  unfold ptrV
  unfold ptrV at kA
  have HE : Hid (EnvOk E) := hE
  have HIV : Hid (Inv E γ W) := hI
  have HA : Hid (γ A = some (.asked s (.slice pp s.length cp) f)) := hA
  obtain ⟨⟨c0, c1, c2, c3⟩, f0, f1, f2, f3⟩ := blk4 kA
  have hmk := fun X => make_of Tryz.underlying76 infoRow rfl s.length (by omega) (by omega) X
  have hmv := fun X => make_of Tryz.underlying141 infoVd rfl E.qs.length (by omega) (by omega) X
  have heo := fun X p n c => eqlNil Tryz.underlying76 X p n c
  have hev := fun X p n c => eqlNil Tryz.underlying141 X p n c
  have KA : Hid (Blk W A 79 [.pointer (some ⟨E.tb, 0, none⟩), .slice pp s.length cp, fv, lv]) := kA
  clear hE hI hA hP kA
  have hki : (k : Int) < (s.length : Int) := by omega
  unfold wide at hmk hmv ⊢
  go_enter Tryz.func96, Tryz.ntmps96
  obtain ⟨pf, nf, hff⟩ : ∃ pf nf, fv = .slice pf nf nf := by
    rcases hfv with rfl | ⟨F, rfl, hF⟩
    · exact ⟨_, _, rfl⟩
    · exact ⟨_, _, rfl⟩
  subst hff
  have h1 := heo W pf nf nf
  go_upto_if 9 with fail
  clear h1
  go_cut [] (fun wx => ∃ γ1 F, Step E γ W γ1 wx ∧ γ1 A = some (.asked s (.slice pp s.length cp) f) ∧ γ1 F = some (.outer A) ∧ Blk wx A 79 [.pointer (some ⟨E.tb, 0, none⟩), .slice pp s.length cp, .slice (some ⟨F, 0, none⟩) s.length s.length, lv])
  case first =>
    rcases hfv with e | ⟨F, e, hF⟩
    · cases e
      have h2 := hmk W
      obtain ⟨st, k1⟩ := step_outer HIV.out HA.out KA.out hlv
      unfold wide at st k1
      unfold ptrV at k1
      have c2' := (blk4 (blk_alloc KA.out (.cells (reps s.length (.slice none 0 0)).toArray 141))).1.2.2.1
      have f2' := (blk4 (blk_alloc KA.out (.cells (reps s.length (.slice none 0 0)).toArray 141))).2.2.2.1
      have FIN : Hid _ := (⟨_, _, st, st.mono HIV.out _ _ HA.out, addG_same _ _ _, k1⟩ : ∃ γ1 F, Step E γ W γ1 _ ∧ γ1 A = some (.asked s (.slice pp s.length cp) f) ∧ γ1 F = some (.outer A) ∧ Blk _ A 79 [.pointer (some ⟨E.tb, 0, none⟩), .slice pp s.length cp, .slice (some ⟨F, 0, none⟩) s.length s.length, lv])
      clear st k1 hmk hmv heo hev hlv
      go_wp2
      go_meet
      exact FIN.out
    · unfold wide at e
      cases e
      have FIN : Hid _ := (⟨γ, F, Step.refl HIV.out, HA.out, hF, KA.out⟩ : ∃ γ1 F, Step E γ W γ1 W ∧ γ1 A = some (.asked s (.slice pp s.length cp) f) ∧ γ1 F = some (.outer A) ∧ Blk W A 79 [.pointer (some ⟨E.tb, 0, none⟩), .slice pp s.length cp, .slice (some ⟨F, 0, none⟩) s.length s.length, lv])
      clear hmk hmv heo hev hlv hF
      go_wp2
      go_meet
      exact FIN.out
  case rest =>
    clear c0 c1 c2 c3 f0 f1 f2 f3 KA hfv heo hmk HA hlv
    obtain ⟨γ1, F, st, hA1, hF1, kA⟩ := hcut
    obtain ⟨_, o, ho, s', pv', f', hA', rows, rfl, hr1, hr2⟩ := st.inv.each F _ hF1
    rw [hA1] at hA'
    cases hA'
    have kF : Blk wc F 141 rows := ho
    obtain ⟨r, hr⟩ : ∃ r, rows[k]? = some r := ⟨_, List.getElem?_eq_getElem (by omega)⟩
    have hrk := hr2 k r hr
    have ST : Hid (Step E γ W γ1 wc) := st
    have HA1 : Hid (γ1 A = some (.asked s (.slice pp s.length cp) f)) := hA1
    have HF1 : Hid (γ1 F = some (.outer A)) := hF1
    have KA : Hid (Blk wc A 79 [.pointer (some ⟨E.tb, 0, none⟩), .slice pp s.length cp, .slice (some ⟨F, 0, none⟩) s.length s.length, lv]) := kA
    have KF : Hid (Blk wc F 141 rows) := kF
    obtain ⟨⟨c0, c1, c2, c3⟩, f0, f1, f2, f3⟩ := blk4 kA
    obtain ⟨x0, x1⟩ := cell_row kF hr
    have HR : Hid (rows[k]? = some r) := hr
    clear hr2 hA1 hF1 kA kF st ho hr
    obtain ⟨pf, nf, hff⟩ : ∃ pf nf, r = .slice pf nf nf := by
      rcases hrk with rfl | ⟨F, rfl, hF⟩
      · exact ⟨_, _, rfl⟩
      · exact ⟨_, _, rfl⟩
    subst hff
    have h1 := hev wc pf nf nf
    go_upto_if 26 with fail
    clear h1
    go_cut [] (fun wx => ∃ γ2 V, Step E γ W γ2 wx ∧ γ2 V = some (.verd A k) ∧ Blk wx A 79 [.pointer (some ⟨E.tb, 0, none⟩), .slice pp s.length cp, .slice (some ⟨F, 0, none⟩) s.length s.length, lv] ∧ wx.cell? ⟨F, k, none⟩ = some (.slice (some ⟨V, 0, none⟩) E.qs.length E.qs.length))
    case first =>
      rcases hrk with e | ⟨V, e, hV⟩
      · cases e
        have q0 : Below wc.heap.size wc wc.drew := below_drew (Below.refl _ _)
        have st2 := ST.out.inv.step q0
        have hl := len_any E.b E.tb E.g E.cap E.qs wc.drew (st2.inv.tree HE.out)
        have h2 := hmv wc.drew
        obtain ⟨st3, k3⟩ := step_verd st2.inv HA1.out HF1.out (KF.out.next q0) hk
        have x2 := cell_row (blk_alloc KF.out (.cells (reps E.qs.length (.int .u8 0)).toArray 143)) HR.out
        obtain ⟨x2, x3⟩ := x2
        have hne : A ≠ F := fun e => by
          have h8 := HA1.out
          have h9 := HF1.out
          rw [e] at h8
          rw [show γ1 F = _ from h9] at h8
          cases h8
        have k4 := (blk_alloc (KA.out.next q0) (.cells (reps E.qs.length (.int .u8 0)).toArray 143)).kept (grown_set _ F k (wide wc.drew.heap.size E.qs.length)) (fun e => hne (by cases e; rfl))
        have x4 : ((wc.drew.alloc (.cells (reps E.qs.length (.int .u8 0)).toArray 143)).setCell ⟨F, k, none⟩ (wide wc.drew.heap.size E.qs.length)).cell? ⟨F, k, none⟩ = some (wide wc.drew.heap.size E.qs.length) := (cell_row k3 (by rw [List.getElem?_set, if_pos rfl, if_pos (by omega)])).1
        have FIN : Hid _ := (⟨_, _, (ST.out.trans st2).trans st3, addG_same _ _ _, k4, x4⟩ : ∃ γ2 V, Step E γ W γ2 _ ∧ γ2 V = some (.verd A k) ∧ Blk _ A 79 [.pointer (some ⟨E.tb, 0, none⟩), .slice pp s.length cp, .slice (some ⟨F, 0, none⟩) s.length s.length, lv] ∧ ((wc.drew.alloc (.cells (reps E.qs.length (.int .u8 0)).toArray 143)).setCell ⟨F, k, none⟩ (wide wc.drew.heap.size E.qs.length)).cell? ⟨F, k, none⟩ = some (.slice (some ⟨V, 0, none⟩) E.qs.length E.qs.length))
        have HS : Hid (∀ X : World, Below wc.heap.size wc X → X.cell? ⟨A, 2, none⟩ = some (.slice (some ⟨F, 0, none⟩) s.length s.length) ∧ X.cell? ⟨A, 0, none⟩ = some (.pointer (some ⟨E.tb, 0, none⟩))) := fun X hX => ⟨(blk4 (KA.out.next hX)).1.2.2.1, (blk4 (KA.out.next hX)).1.1⟩
        have q1 : Below wc.heap.size wc (wc.drew.alloc (.cells (reps E.qs.length (.int .u8 0)).toArray 143)) := q0.alloc (Nat.le_refl _) _
        clear st2 st3 k3 k4 x4 hev hmv c0 c1 c2 c3 f0 f1 f2 f3 x0 x1
        unfold wide at FIN
        go_wp2
        refine Rg.wpD_begin [0, 1, 2, 3, 4, 5, 6, 7, 8, 9, 10] (fun X => X.cell? ⟨A, 2, none⟩ = some (.slice (some ⟨F, 0, none⟩) s.length s.length) ∧ X.cell? ⟨A, 0, none⟩ = some (.pointer (some ⟨E.tb, 0, none⟩))) (by kernel_rfl) ?_
        have HeldS := HS.out _ q0
        refine Rg.ld 0 HeldS ?_
        simp only [Act.put, Rg.sA, Rg.sB, Rg.sC]
        refine Rg.ld 1 HeldS ?_
        simp only [Act.put, Rg.sA, Rg.sB, Rg.sC]
        refine Rg.ld 2 HeldS ?_
        simp only [Act.put, Rg.sA, Rg.sB, Rg.sC]
        refine Rg.ld 3 HeldS ?_
        simp only [Act.put, Rg.sA, Rg.sB, Rg.sC]
        refine Rg.ld 4 HeldS ?_
        simp only [Act.put, Rg.sA, Rg.sB, Rg.sC]
        refine Rg.ld 5 HeldS ?_
        simp only [Act.put, Rg.sA, Rg.sB, Rg.sC]
        refine Rg.ld 6 HeldS ?_
        simp only [Act.put, Rg.sA, Rg.sB, Rg.sC]
        refine Rg.ld 7 HeldS ?_
        simp only [Act.put, Rg.sA, Rg.sB, Rg.sC]
        refine Rg.ld 8 HeldS ?_
        simp only [Act.put, Rg.sA, Rg.sB, Rg.sC]
        refine Rg.wpD_do 9 (by kernel_rfl) (by simp only [List.getElem?_toArray, List.getElem?_cons_succ, List.getElem?_cons_zero]; rfl) (fun K hK => ?_)
        go_simp
        go_at_call 32
        refine Calls.mono hl ?_
        clear hl
        rintro x wN ⟨rfl, rfl⟩
        refine hK _ _ (fun _ => HS.out _ q0) ?_
        clear hK K
        refine Rg.wpD_do 10 (by kernel_rfl) (by simp only [List.getElem?_toArray, List.getElem?_cons_succ, List.getElem?_cons_zero]; rfl) (fun K hK => ?_)
        go_simp
        refine hK _ _ (fun _ => HS.out _ q1) ?_
        clear hK K
        refine Rg.pu 11 ?_
        simp only [Act.put, Rg.sA, Rg.sB, Rg.sC]
        refine Rg.wpD_do 12 (by kernel_rfl) (by simp only [List.getElem?_toArray, List.getElem?_cons_succ, List.getElem?_cons_zero]; rfl) (fun K hK => ?_)
        go_simp
        refine hK _ _ (fun h => absurd h (by decide)) ?_
        clear hK K
        refine Rg.wpD_done (by kernel_rfl) ?_
        go_wp2
        go_meet
        exact FIN.out
      · unfold wide at e
        cases e
        have FIN : Hid _ := (⟨γ1, V, ST.out, hV, KA.out, x0⟩ : ∃ γ2 V, Step E γ W γ2 wc ∧ γ2 V = some (.verd A k) ∧ Blk wc A 79 [.pointer (some ⟨E.tb, 0, none⟩), .slice pp s.length cp, .slice (some ⟨F, 0, none⟩) s.length s.length, lv] ∧ wc.cell? ⟨F, k, none⟩ = some (.slice (some ⟨V, 0, none⟩) E.qs.length E.qs.length))
        clear hV hmv hev
        go_wp2
        go_meet
        exact FIN.out
    case rest =>
      clear c0 c1 c2 c3 f0 f1 f2 f3 x0 x1 hrk KA KF
      obtain ⟨γ2, V, st, hV, kA, x0⟩ := hcut
      obtain ⟨⟨c0, c1, c2, c3⟩, _⟩ := blk4 kA
      have FIN : Hid _ := (⟨V, γ2, rfl, hV, st⟩ : ∃ V' γ', Ending.returned (.slice (some ⟨V, 0, none⟩) E.qs.length E.qs.length) = Ending.returned (.slice (some ⟨V', 0, none⟩) E.qs.length E.qs.length) ∧ γ' V' = some (.verd A k) ∧ Step E γ W γ' wc)
      clear hev hmv st hV kA
      go_wp2
      go_ret
      exact FIN.out
end Go.Proofs.YtcicppadjipndaaGreat.Mt
/- package match: maps from spots to what is asked there. -/
namespace Go.Proofs.YtcicppadjipndaaGreat.Mt
open Go.Proofs.YtcicppadjipndaaGreat.Tre
open Go Go.RowKit Dm
theorem mapLaid : laidOutB Tryz.prog = true := by kernel_rfl
theorem keyT : Tryz.prog.keyType 140 = true := by kernel_rfl
theorem typesFew : decide (Tryz.prog.types.size + 2 ≤ 10000) = true := by kernel_rfl
theorem spotLt : decide (140 < Tryz.prog.types.size) = true := by kernel_rfl
theorem spotKeyed : Maps.Keyed Tryz.prog 140 := Maps.Keyed.of_law (deep_law_gate mapLaid (of_decide_eq_true typesFew) (of_decide_eq_true spotLt) keyT (by rw [Tryz.underlying140]))
theorem zeroPs (w : World) : (zeroValue 172).run Tryz.prog w = .ok (.slice none 0 0) w := by kernel_rfl
theorem wf64 {k : Nat} (h : k < 1099511627776) : (Lit.int .i64 (k : Int)).wf = true := WalkArith.wf_i64 (by omega)
theorem cellsSpot : Tryz.prog.cellsOf 140 = 2 := by kernel_rfl
theorem cellsI : Tryz.prog.cellsOf 3 = 1 := by kernel_rfl
theorem keyL_of {k j : Nat} (hk : k < 1099511627776) (hj : j < 1099511627776) : keyOf Tryz.prog 140 (.agg #[.int .i64 k, .int .i64 j]) = some (keyL k j) := by
  have hsz : ∃ m, Tryz.prog.types.size = m + 1 := ⟨_, rfl⟩
  obtain ⟨m, hm⟩ := hsz
  unfold keyOf
  simp only [Tryz.underlying140]
  rw [if_pos (by simp [keyT, Value.formed, Tryz.underlying140, cellsSpot]), hm]
  unfold Program.keyLits
  simp only [Tryz.underlying140, Value.cells]
  rw [if_pos (by rw [cellsSpot]; exact ⟨rfl, by decide +kernel⟩)]
  simp [List.mapM_cons, cellsI, Program.keyLits, Tryz.underlying3, wf64 hk, wf64 hj, keyL]
theorem keyL_inj {k j k' j' : Nat} (hk : k < 1099511627776) (hj : j < 1099511627776) (hk' : k' < 1099511627776) (hj' : j' < 1099511627776) (h : keyL k j = keyL k' j') : k = k' ∧ j = j' := by
  have e := spotKeyed.inj (keyL_of hk hj) (by rw [keyL_of hk' hj', h])
  simp at e
  omega
theorem keyL_lit {k j : Nat} (hk : k < 1099511627776) (hj : j < 1099511627776) : WideAt.IsKeyLit (keyL k j) := spotKeyed.key (keyL_of hk hj)
theorem MapObj.owns {W : World} {M n : Nat} {D : DataW Value} {o : Obj} (h : MapObj o n D) (ho : W.heap[M]? = some o) : W.ownsMap Tryz.prog 140 held M n D := by
  obtain ⟨es, clock, rfl, h1, h2, h3⟩ := h
  exact ⟨es, clock, ho, h1, h2, h3⟩
theorem owns_obj {W : World} {M n : Nat} {D : DataW Value} (h : W.ownsMap Tryz.prog 140 held M n D) : ∃ o, W.heap[M]? = some o ∧ MapObj o n D := by
  obtain ⟨es, clock, h0, h1, h2, h3⟩ := h
  exact ⟨_, h0, es, clock, rfl, h1, h2, h3⟩
theorem Step.assign {E : Env} {γ γ' : Ghost} {W X : World} (h : Step E γ W γ' X) {B : Nat} {r : Role} {o : Obj} (hB : W.heap.size ≤ B) (hn : γ' B = .none) (hn0 : E.n₀ ≤ W.heap.size) (ho : X.heap[B]? = some o) (hr : RoleOk E (addG γ' B r) B o r) : Step E γ W (addG γ' B r) X := by
  have mono : ∀ k x, γ' k = some x → addG γ' B r k = some x := fun k x hk => by
    rw [addG_other r (fun e => by rw [e, hn] at hk; cases hk)]
    exact hk
  refine ⟨⟨h.inv.low, fun A r' hA => ?_⟩, h.size, fun k hk => (addG_other r (by omega)).trans (h.role k hk), h.block⟩
  by_cases e : A = B
  · subst e
    rw [addG_same] at hA
    cases hA
    exact ⟨by omega, o, ho, hr⟩
  · rw [addG_other r e] at hA
    obtain ⟨h1, o', ho', hr'⟩ := h.inv.each A r' hA
    exact ⟨h1, o', ho', hr'.mono mono⟩
def allSpots : List (Nat × Nat) := (List.range 50).flatMap (fun k => (List.range 1099511627776).map (fun j => (k, j)))
theorem allSpots_len : allSpots.length = 50 * 1099511627776 := by
  unfold allSpots
  rw [List.length_flatMap]
  simp only [List.length_map, List.length_range]
  rfl
theorem spots_few {ks : List (Nat × Nat)} (hn : ks.Nodup) (h : ∀ k j, (k, j) ∈ ks → k < 50 ∧ j < 1099511627776) : ks.length ≤ 50 * 1099511627776 := by
  rw [← allSpots_len]
  refine hn.length_le_of_subset (fun x hx => ?_)
  obtain ⟨k, j⟩ := x
  obtain ⟨h1, h2⟩ := h k j hx
  exact List.mem_flatMap.2 ⟨k, List.mem_range.2 h1, List.mem_map.2 ⟨j, List.mem_range.2 h2, rfl⟩⟩
end Go.Proofs.YtcicppadjipndaaGreat.Mt
