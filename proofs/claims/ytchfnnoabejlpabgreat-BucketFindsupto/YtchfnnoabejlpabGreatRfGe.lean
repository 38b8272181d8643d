/- The document's own matching (tapestrierref9): selectors and lists of them, at every tree and element. -/
import Derived.Test.YtchfnnoabejlpabGreatRfGd
import Derived.Laws.MakeOwn
import Derived.Test.YtchfnnoabejlpabGreatDmGc
import Derived.Test.YtchfnnoabejlpabGreatWgG
import Derived.Test.YtchfnnoabejlpabGreatBkD
import Derived.Test.YtchfnnoabejlpabGreatBkFor
namespace Go.Proofs.YtchfnnoabejlpabGreat.Rf
open Go Go.RowKit Go.Shelf Sl Wg Bk Go.Proofs.YtchfnnoabejlpabGreat.Tre
open Dm (El parentV placeV childrenV nodeV beforeV TreeOk)

/-! ### numbers that are made -/
def zeros (n : Nat) : List Value := (List.replicate n (0 : Int)).map (Value.int .i64)
theorem made_zeros (n : Nat) : madeCells #[.int .i64 0] n = (zeros n).toArray := by
  apply Array.ext
  · simp [madeCells, zeros]
  · intro i h1 h2
    simp [madeCells, Nat.mod_one, zeros]
theorem infoInt : (Tryz.prog.info? 3).map (fun i => (i.zero, i.size, i.bytes)) = some (some (.int .i64 0), 1, 8) := by kernel_rfl
theorem make_zeros (n : Nat) (hn : n ≤ 1000000) (w : World) :
    (Instr.makeSlice 32 (.int .i64 n) (.int .i64 n)).run Tryz.prog w = .ok (.slice (some ⟨w.heap.size, 0, none⟩) n n) (w.alloc (.cells (zeros n).toArray 3)) := by
  obtain ⟨i0, hi, hz0, hz1, hz2⟩ := info_of infoInt
  have := run_make w 32 3 i0 (.int .i64 0) Tryz.underlying32 hi hz0 .i64 .i64 (n : Int) (n : Int) (by omega) (Int.le_refl _) (by rw [hz2, Int.mul_comm]; omega) (by omega)
  rw [this, Int.toNat_natCast, hz1, Nat.mul_one, show (Value.int .i64 0).cells = #[.int .i64 0] from rfl, made_zeros]
theorem Kn.new (X : World) (m N : Nat) (f : Nat → Nat → Bool) : Kn (X.alloc (.cells (zeros (N * m)).toArray 3)) X.heap.size m N f := by
  refine ⟨List.replicate (N * m) 0, Blk.new X _ _, List.length_replicate .., fun k e hk he => .inl ?_⟩
  rw [List.getElem?_replicate, if_pos (at_lt hk he)]

/-! ### selector, any -/
def SelOK (d : Nat) : Prop := ∀ (T : TE) (s : Sel) (p : Option Addr) (cap : Nat) (e : Int) (w : World), T.At w → PartsR d w.heap.size w (.slice p s.length cap) s → deepS d s = false → okS d s →
  Calls Tryz.prog 36 #[T.p, .int .i64 e, .agg #[.slice p s.length cap], .int .i64 (8 - (d : Int))] w fun r w' => r = .returned (.bool (decide (0 ≤ e ∧ e < (T.es.length : Int)) && Mt.selV (Mt.anyV T.es d) T.es s e.toNat)) ∧ Below w.heap.size w w'

set_option maxRecDepth 100000 in
set_option maxHeartbeats 4000000 in
theorem sel_of (d : Nat) (HF : ∀ k, FrontOK d k) : SelOK d := by
  intro T s p cap e w hT hv hdp hok
  obtain ⟨hs50, _⟩ := few_parts hdp
  have hlen := hT.len
  obtain ⟨V, hV⟩ : ∃ V, (decide (0 ≤ e ∧ e < (T.es.length : Int)) && Mt.selV (Mt.anyV T.es d) T.es s e.toNat) = V := ⟨_, rfl⟩
  rw [hV]
  obtain ⟨w1, hw1⟩ : ∃ w1, w.alloc (.cells #[.slice p s.length cap] 50) = w1 := ⟨_, rfl⟩
  have b1 : Below w.heap.size w w1 := by rw [← hw1]; exact (Below.refl _ w).alloc (Nat.le_refl _) _
  have k1 : Blk w1 w.heap.size 50 [.slice p s.length cap] := by rw [← hw1]; exact Blk.new w _ _
  have c0 := (blk1 k1).1
  have his := is_any T e w1 (hT.next b1)
  by_cases hin : 0 ≤ e ∧ e < (T.es.length : Int)
  · rw [decide_eq_true hin] at his
    rw [decide_eq_true hin, Bool.true_and] at hV
    obtain ⟨k, rfl⟩ : ∃ k : Nat, e = (k : Int) := ⟨e.toNat, by omega⟩
    have hk : k < T.es.length := by omega
    rw [Int.toNat_natCast] at hV
    by_cases h0 : s.length = 0
    · obtain rfl : V = false := by
        rw [← hV]; unfold Mt.selV
        rw [h0]; rfl
      have h0b : ((s.length : Int) == 0) = true := by rw [h0]; rfl
      clear hT hv hdp hok hV h0 hin k1 hlen hs50
      go_enter Tryz.func36, Tryz.ntmps36
      go_wp2_with fail
      go_at_call 20
      refine Calls.mono his ?_
      clear his
      rintro x wx ⟨rfl, hww⟩
      obtain rfl := hww.symm
      clear hww hw1
      go_wp2
      go_ret
      exact ⟨rfl, b1⟩
    · have h0b : ((s.length : Int) == 0) = false := by rw [beq_eq_false_iff_ne]; omega
      obtain ⟨j, hj⟩ : ∃ j, s.length = j + 1 := ⟨s.length - 1, by omega⟩
      have hV2 : upV d T s j k = V := by
        rw [← hV]; unfold Mt.selV
        rw [decide_eq_true (by omega), Bool.true_and, hj]; rfl
      have HE : Hid (PtEnv d T s p cap w) := ⟨hT, hv, hdp, hok⟩
      have hKt : T.tb < w1.heap.size := (hT.next b1).tr.blk.lt
      have c1 := (Dm.blk2 (hT.next b1).tr.blk).1.1
      obtain ⟨⟨pn, cn, hnv⟩, _⟩ := hT.tr.form
      rw [hnv, hT.tells.len.1] at c1
      have hml : T.es.length * s.length ≤ 204800 := Nat.mul_le_mul hlen hs50
      have HFC : Hid (∀ K X, w.heap.size ≤ K → Below w.heap.size w X → Kn X K s.length T.es.length (upV d T s) → Calls Tryz.prog 65 #[T.p, .int .i64 k, .agg #[.slice p s.length cap], .int .i64 (s.length : Int), .int .i64 (8 - (d : Int)), .slice (some ⟨K, 0, none⟩) (T.es.length * s.length) (T.es.length * s.length)] X fun r X' => r = .returned (.bool V) ∧ But K X X') := fun K X h1 h2 h3 => by
        have h := HF j T s p cap k K w X HE.out hk (by omega) h1 h2 h3
        rw [show (j : Int) + 1 = (s.length : Int) by omega, hV2] at h
        exact Calls.mono h (fun r X' ⟨a, b, _⟩ => ⟨a, b⟩)
      have HKN : Hid (∀ X : World, Kn (X.alloc (.cells (zeros (T.es.length * s.length)).toArray 3)) X.heap.size s.length T.es.length (upV d T s)) := fun X => Kn.new X _ _ _
      have HSt : Hid (∀ X, Below w1.heap.size w1 X → X.cell? ⟨T.tb, 0, none⟩ = some (.slice pn T.es.length cn) ∧ X.cell? ⟨w.heap.size, 0, none⟩ = some (.slice p s.length cap)) := fun X hX => ⟨(hX.cell (p := ⟨T.tb, 0, none⟩) hKt).trans c1, (blk1 (k1.below hX k1.lt)).1⟩
      obtain ⟨L, hL⟩ : ∃ L, T.es.length * s.length = L := ⟨_, rfl⟩
      have hmul : IntKind.i64.wrap ((T.es.length : Int) * (s.length : Int)) = (L : Int) := by
        rw [← Int.natCast_mul, hL, IntKind.wrap_i64]; omega
      obtain ⟨D, hD⟩ : ∃ D : Int, 8 - (d : Int) = D := ⟨_, rfl⟩
      rw [hL, hD] at HFC
      rw [hL] at HKN hml
      rw [hD]
      have s1 : w.heap.size < w1.heap.size := k1.lt
      clear hT hv hdp hok hV h0 hin k1 hlen hs50 hj hV2 hL hD c1 hnv HF hKt
      go_enter Tryz.func36, Tryz.ntmps36
      go_wp2_with fail
      go_at_call 20
      refine Calls.mono his ?_
      clear his
      rintro x wx ⟨rfl, hww⟩
      obtain rfl := hww.symm
      clear hww hw1
      go_upto_region 3 with fail
      refine Rg.wpD_begin [0, 1, 2, 3, 4, 5, 6, 7, 8] (fun X => X.cell? ⟨T.tb, 0, none⟩ = some (.slice pn T.es.length cn) ∧ X.cell? ⟨w.heap.size, 0, none⟩ = some (.slice p s.length cap)) (by kernel_rfl) ?_
      have q0 : Below w1.heap.size w1 w1.drew := below_drew (Below.refl _ _)
      have HeldS := HSt.out _ q0
      refine Rg.wpD_load 0 (v := ?_) (by simp only [List.getElem?_toArray, List.getElem?_cons_zero]; rfl) (by kernel_rfl) (by kernel_rfl) (by intro _ _ _ h; exact h) HeldS (by rfl) (fun wz hz => ?_) ?_
      rotate_left
      · first | (go_simp; done) | (go_simp; with_reducible rfl)
      simp only [Act.put, List.setIfInBounds_toArray, List.set_cons_succ, List.set_cons_zero]
      refine Rg.wpD_load 1 (v := ?_) (by simp only [List.getElem?_toArray, List.getElem?_cons_succ, List.getElem?_cons_zero]; rfl) (by kernel_rfl) (by kernel_rfl) (by intro _ _ _ h; exact h) HeldS (by rfl) (fun wz hz => ?_) ?_
      rotate_left
      · first | (go_simp; done) | (go_simp; with_reducible rfl)
      simp only [Act.put, List.setIfInBounds_toArray, List.set_cons_succ, List.set_cons_zero]
      refine Rg.wpD_load 2 (v := ?_) (by simp only [List.getElem?_toArray, List.getElem?_cons_succ, List.getElem?_cons_zero]; rfl) (by kernel_rfl) (by kernel_rfl) (by intro _ _ _ h; exact h) HeldS (by rfl) (fun wz hz => ?_) ?_
      rotate_left
      · first | (go_simp; done) | (go_simp; with_reducible rfl)
      simp only [Act.put, List.setIfInBounds_toArray, List.set_cons_succ, List.set_cons_zero]
      refine Rg.wpD_load 3 (v := ?_) (by simp only [List.getElem?_toArray, List.getElem?_cons_succ, List.getElem?_cons_zero]; rfl) (by kernel_rfl) (by kernel_rfl) (by intro _ _ _ h; exact h) HeldS (by rfl) (fun wz hz => ?_) ?_
      rotate_left
      · first | (go_simp; done) | (go_simp; with_reducible rfl)
      simp only [Act.put, List.setIfInBounds_toArray, List.set_cons_succ, List.set_cons_zero]
      refine Rg.wpD_load 4 (v := ?_) (by simp only [List.getElem?_toArray, List.getElem?_cons_succ, List.getElem?_cons_zero]; rfl) (by kernel_rfl) (by kernel_rfl) (by intro _ _ _ h; exact h) HeldS (by rfl) (fun wz hz => ?_) ?_
      rotate_left
      · first | (go_simp; done) | (go_simp; with_reducible rfl)
      simp only [Act.put, List.setIfInBounds_toArray, List.set_cons_succ, List.set_cons_zero]
      refine Rg.wpD_load 5 (v := ?_) (by simp only [List.getElem?_toArray, List.getElem?_cons_succ, List.getElem?_cons_zero]; rfl) (by kernel_rfl) (by kernel_rfl) (by intro _ _ _ h; exact h) HeldS (by rfl) (fun wz hz => ?_) ?_
      rotate_left
      · first | (go_simp; done) | (go_simp; with_reducible rfl)
      simp only [Act.put, List.setIfInBounds_toArray, List.set_cons_succ, List.set_cons_zero]
      refine Rg.wpD_load 6 (v := ?_) (by simp only [List.getElem?_toArray, List.getElem?_cons_succ, List.getElem?_cons_zero]; rfl) (by kernel_rfl) (by kernel_rfl) (by intro _ _ _ h; exact h) HeldS (by rfl) (fun wz hz => ?_) ?_
      rotate_left
      · first | (go_simp; done) | (go_simp; with_reducible rfl)
      simp only [Act.put, List.setIfInBounds_toArray, List.set_cons_succ, List.set_cons_zero]
      refine Rg.wpD_load 7 (v := ?_) (by simp only [List.getElem?_toArray, List.getElem?_cons_succ, List.getElem?_cons_zero]; rfl) (by kernel_rfl) (by kernel_rfl) (by intro _ _ _ h; exact h) HeldS (by rfl) (fun wz hz => ?_) ?_
      rotate_left
      · first | (go_simp; done) | (go_simp; with_reducible rfl)
      simp only [Act.put, List.setIfInBounds_toArray, List.set_cons_succ, List.set_cons_zero]
      refine Rg.wpD_load 8 (v := ?_) (by simp only [List.getElem?_toArray, List.getElem?_cons_succ, List.getElem?_cons_zero]; rfl) (by kernel_rfl) (by kernel_rfl) (by intro _ _ _ h; exact h) HeldS (by rfl) (fun wz hz => ?_) ?_
      rotate_left
      · first | (go_simp; done) | (go_simp; with_reducible rfl)
      simp only [Act.put, List.setIfInBounds_toArray, List.set_cons_succ, List.set_cons_zero]
      have hmk := make_zeros L (by omega) w1.drew
      refine Rg.wpD_do 9 (by kernel_rfl) (by simp only [List.getElem?_toArray, List.getElem?_cons_succ, List.getElem?_cons_zero]; rfl) (fun K hK => ?_)
      go_simp
      refine hK _ _ (fun h => absurd h (by decide)) ?_
      clear hK K HeldS hmk
      refine Rg.wpD_pure 10 (v := ?_) (by simp only [List.getElem?_toArray, List.getElem?_cons_succ, List.getElem?_cons_zero]; rfl) (by kernel_rfl) (by kernel_rfl) (by intro _ _ _ h; exact h) (by rfl) (fun wz => ?_) ?_
      rotate_left
      · first | (go_simp; done) | (go_simp; with_reducible rfl)
      simp only [Act.put, List.setIfInBounds_toArray, List.set_cons_succ, List.set_cons_zero]
      refine Rg.wpD_done (by kernel_rfl) ?_
      have hKn : Kn (w1.alloc (.cells (zeros L).toArray 3)).drew w1.heap.size s.length T.es.length (upV d T s) := (HKN.out w1).kept rfl
      have q2 : Below w1.heap.size w1 (w1.alloc (.cells (zeros L).toArray 3)).drew := below_drew ((Below.refl _ w1).alloc (Nat.le_refl _) _)
      generalize (w1.alloc (.cells (zeros L).toArray 3)).drew = w2 at *
      have hcall := HFC.out w1.heap.size w2 (Nat.le_of_lt s1) (below_next b1 q2) hKn
      obtain ⟨c1, c0⟩ := HSt.out _ q2
      have HB2 : Hid (Below w.heap.size w w2) := below_next b1 q2
      clear hKn q2 q0 HKN HSt
      go_wp2_with fail
      go_at_call 65
      refine Calls.mono hcall ?_
      clear hcall c1 c0
      rintro r w3 ⟨rfl, b3⟩
      have B3 : Below w.heap.size w w3 := HB2.out.trans (b3.below (Nat.le_of_lt s1) HB2.out.size)
      go_wp2
      go_ret
      exact ⟨rfl, B3⟩
  · rw [decide_eq_false hin] at his
    rw [decide_eq_false hin, Bool.false_and] at hV
    subst hV
    clear hT hv hdp hok hin k1 hlen hs50
    go_enter Tryz.func36, Tryz.ntmps36
    go_wp2_with fail
    go_at_call 20
    refine Calls.mono his ?_
    clear his
    rintro x wx ⟨rfl, hww⟩
    obtain rfl := hww.symm
    clear hww hw1
    go_wp2
    go_ret
    exact ⟨rfl, b1⟩

set_option maxRecDepth 100000 in
set_option maxHeartbeats 1000000 in
theorem any_of (d : Nat) (HS : SelOK d) : AnyOK d := by
  intro T l v k w hT hk hv hdp hok
  obtain ⟨p, cap, rfl⟩ := RowT.len hv
  obtain ⟨V, hV⟩ : ∃ V, Mt.anyV T.es (d + 1) l k = V := ⟨_, rfl⟩
  rw [hV]
  have HV : Hid (l.any (fun s => Mt.selV (Mt.anyV T.es d) T.es s k) = V) := hV
  have HVV : Hid (SelsR (d + 1) w.heap.size w (.slice p l.length cap) l) := hv
  have HT : Hid (T.At w) := hT
  have HO : Hid ((∀ s ∈ l, deepS d s = false) ∧ ∀ s ∈ l, okS d s) := ⟨hdp, hok⟩
  have HSS : Hid (SelOK d) := HS
  obtain ⟨D, hD⟩ : ∃ D : Int, 8 - (d : Int) = D := ⟨_, rfl⟩
  have HD : Hid (8 - (d : Int) = D) := hD
  rw [hD]
  clear hV hv hT hdp hok HS hD
  go_enter Tryz.func122, Tryz.ntmps122
  go_wp2
  go_loopw [9] (fun x wr => ∃ i : Nat, x = .int .i64 i ∧ i ≤ l.length ∧ Hid ((l.take i).any (fun s => Mt.selV (Mt.anyV T.es d) T.es s k) = false) ∧ Below w.heap.size w wr) (fun x _ => l.length - (intOf x).toNat)
  case atStart => exact ⟨0, rfl, Nat.zero_le _, rfl, Below.refl _ _⟩
  case round =>
    obtain ⟨i, rfl, hi, HA, hb⟩ := hrel
    by_cases hlt : i < l.length
    · have hii : (i : Int) < (l.length : Int) := by omega
      obtain ⟨s, hs⟩ : ∃ s, l[i]? = some s := ⟨_, List.getElem?_eq_getElem hlt⟩
      obtain ⟨b, off, x, hq, hbn, hc1, hc2, hx, y0⟩ := SelsR.get HVV.out hs
      subst hq
      unfold maxLen at hc2
      obtain ⟨q, c, rfl⟩ := RowT.len hx
      have y1 := (hb.cell (p := ⟨b, off + i, none⟩) hbn).trans y0
      have hsm := List.mem_of_getElem? hs
      have hcall := HSS.out T s q c (k : Int) wr (HT.out.next hb) ((PartsR.below hx hb).mono hb.size) (HO.out.1 s hsm) (HO.out.2 s hsm)
      rw [HD.out, decide_eq_true ⟨by omega, by omega⟩, Bool.true_and, Int.toNat_natCast] at hcall
      generalize hSV : Mt.selV (Mt.anyV T.es d) T.es s k = SV at hcall
      have HSV : Hid (Mt.selV (Mt.anyV T.es d) T.es s k = SV) := hSV
      have HS1 : Hid (l[i]? = some s) := hs
      have hi1 : (i : Int) + 1 ≤ 9223372036854775807 := by omega
      have HB : Hid (i + 1 ≤ l.length) := hlt
      clear hs hsm hx y0 hSV hc1
      go_wp2_with fail
      go_at_call 36
      refine Calls.mono hcall ?_
      clear hcall y1
      rintro r w2 ⟨rfl, b2⟩
      have B2 := below_next hb b2
      cases SV with
      | true =>
        obtain rfl : V = true := by
          rw [← HV.out, List.any_eq_true]
          exact ⟨s, List.mem_of_getElem? HS1.out, HSV.out⟩
        clear HA HSV HS1 HV
        go_wp2
        go_ret
        exact ⟨rfl, B2⟩
      | false =>
        have HA1 : Hid ((l.take (i + 1)).any (fun s => Mt.selV (Mt.anyV T.es d) T.es s k) = false) := by
          show _ = _
          rw [any_snoc _ HS1.out, HA.out, HSV.out]; rfl
        clear HA HSV HS1
        go_wp2
        go_roundw
        case rel => exact ⟨i + 1, by go_num, HB.out, HA1, B2⟩
        case measure => have := HB.out; simp [intOf]; omega
    · have hii : ¬ (i : Int) < (l.length : Int) := by omega
      obtain rfl : V = false := by
        have h := HA.out
        rw [List.take_of_length_le (by omega)] at h
        rw [← HV.out, h]
      go_wp2
      go_ret
      exact ⟨rfl, hb⟩

/-- All together, by how deep lists may stand. -/
theorem front_all (d : Nat) (HC : CompOK d) : ∀ k, FrontOK d k
  | 0 => front_of d 0 HC (fun k' h => by omega)
  | k + 1 => front_of d (k + 1) HC (fun k' h => by obtain rfl : k' = k := (by omega); exact hangs_of d k' (front_all d HC k'))
theorem comp_all : ∀ d, d ≤ 8 → CompOK d
  | 0, h => comp_of 0 h (fun d' e => by omega)
  | d + 1, h => comp_of (d + 1) h (fun d' e => by obtain rfl : d' = d := (by omega); exact any_of d' (sel_of d' (front_all d' (comp_all d' (by omega)))))
theorem sel_all (d : Nat) (h : d ≤ 8) : SelOK d := sel_of d (front_all d (comp_all d h))

/-- What Selector answers. -/
def selectorV (es : List El) (e : Int) (s : Sel) : Bool := decide (0 ≤ e ∧ e < (es.length : Int)) && (!deepS 8 s && Mt.selV (Mt.anyV es 8) es s e.toNat)

set_option maxRecDepth 100000 in
set_option maxHeartbeats 1000000 in
/-- THE DOCUMENT'S Selector AT EVERY TREE, ELEMENT AND SELECTOR. -/
theorem selector_any (T : TE) (s : Sel) (v : Value) (e : Int) (w : World) (hT : T.At w) (hv : PartsR 8 w.heap.size w v s) (hok : okS 8 s) :
    Calls Tryz.prog 21 #[T.p, .int .i64 e, .agg #[v]] w fun r w' => r = .returned (.bool (selectorV T.es e s)) ∧ Below w.heap.size w w' := by
  obtain ⟨p, cap, rfl⟩ := RowT.len hv
  obtain ⟨V, hV⟩ : ∃ V, selectorV T.es e s = V := ⟨_, rfl⟩
  rw [hV]
  unfold selectorV at hV
  obtain ⟨w1, hw1⟩ : ∃ w1, w.alloc (.cells #[.slice p s.length cap] 50) = w1 := ⟨_, rfl⟩
  have b1 : Below w.heap.size w w1 := by rw [← hw1]; exact (Below.refl _ w).alloc (Nat.le_refl _) _
  have k1 : Blk w1 w.heap.size 50 [.slice p s.length cap] := by rw [← hw1]; exact Blk.new w _ _
  have c0 := (blk1 k1).1
  have hdp := deepSel_any 8 (Nat.le_refl _) (.slice p s.length cap) s w1 ((PartsR.below hv b1).mono b1.size)
  rw [show (8 : Int) - ((8 : Nat) : Int) = 0 from rfl] at hdp
  have HSL : Hid (deepS 8 s = false → ∀ X, Below w1.heap.size w1 X → Calls Tryz.prog 36 #[T.p, .int .i64 e, .agg #[.slice p s.length cap], .int .i64 0] X fun r w' => r = .returned (.bool (decide (0 ≤ e ∧ e < (T.es.length : Int)) && Mt.selV (Mt.anyV T.es 8) T.es s e.toNat)) ∧ Below X.heap.size X w') := fun hd X hX => by
    have h2 := below_next b1 hX
    exact sel_all 8 (Nat.le_refl _) T s p cap e X (hT.next h2) ((PartsR.below hv h2).mono h2.size) hd hok
  have K1 : Hid (Blk w1 w.heap.size 50 [.slice p s.length cap]) := k1
  clear hT hv hok k1
  cases hd : deepS 8 s with
  | true =>
    rw [hd] at hdp hV
    obtain rfl : V = false := by rw [← hV]; simp
    clear hV HSL hd
    go_enter Tryz.func21, Tryz.ntmps21
    go_wp2_with fail
    go_at_call 35
    refine Calls.mono hdp ?_
    clear hdp hw1 c0
    rintro r w2 ⟨rfl, b2⟩
    have B2 := below_next b1 b2
    go_wp2
    go_ret
    exact ⟨rfl, B2⟩
  | false =>
    rw [hd] at hdp hV
    have hV2 : (decide (0 ≤ e ∧ e < (T.es.length : Int)) && Mt.selV (Mt.anyV T.es 8) T.es s e.toNat) = V := by rw [← hV]; simp
    have HS2 := HSL.out hd
    rw [hV2] at HS2
    have HS3 : Hid (∀ X, Below w1.heap.size w1 X → Calls Tryz.prog 36 #[T.p, .int .i64 e, .agg #[.slice p s.length cap], .int .i64 0] X fun r w' => r = .returned (.bool V) ∧ Below X.heap.size X w') := HS2
    clear hV HSL hd HS2 hV2
    go_enter Tryz.func21, Tryz.ntmps21
    go_wp2_with fail
    go_at_call 35
    refine Calls.mono hdp ?_
    clear hdp hw1 c0
    rintro r w2 ⟨rfl, b2⟩
    have c0 := (blk1 (K1.out.below b2 K1.out.lt)).1
    have hcall := HS3.out w2 b2
    have B2 := below_next b1 b2
    clear b2 HS3
    go_wp2_with fail
    go_at_call 36
    refine Calls.mono hcall ?_
    clear hcall c0
    rintro r w3 ⟨rfl, b3⟩
    have B3 := below_next B2 b3
    go_wp2
    go_ret
    exact ⟨rfl, B3⟩

end Go.Proofs.YtchfnnoabejlpabGreat.Rf

/- The document's New, and what its tree is to matching. -/
namespace Go.Proofs.YtchfnnoabejlpabGreat.Rf
open Go Go.RowKit Sl Wg Go.Proofs.YtchfnnoabejlpabGreat.Tre
open Dm (El Nd Nv lowN SmallN newV newF addV growV zeroEl RTr Tells)

theorem grow_nds {es : List El} {p c : Nat} {q : El} (hq : es[p]? = some q) {x : El} (hx : x ∈ growV es p q c) : ∃ y ∈ es, x.nd = y.nd := by
  unfold growV at hx
  rcases List.mem_or_eq_of_mem_set hx with h | rfl
  · exact ⟨x, h, rfl⟩
  · exact ⟨q, List.mem_of_getElem? hq, rfl⟩
theorem add_nds {es es' : List El} {n : Nd} (h : addV es n = .ok es') {x : El} (hx : x ∈ es') : (∃ y ∈ es, x.nd = y.nd) ∨ x.nd = lowN n := by
  unfold addV at h
  split at h
  · split at h
    · cases h
      rw [List.mem_singleton] at hx
      subst hx
      exact .inr rfl
    · cases h
  · split at h
    · rename_i hp
      split at h
      · cases h
      · cases h
        rcases List.mem_append.1 hx with hx | hx
        · obtain ⟨q, hq⟩ : ∃ q, es[n.parent.toNat]? = some q := ⟨_, List.getElem?_eq_getElem (by omega)⟩
          have hg : es.getD n.parent.toNat zeroEl = q := by simp [List.getD, hq]
          rw [hg] at hx
          exact .inl (grow_nds hq hx)
        · rw [List.mem_singleton] at hx
          subst hx
          exact .inr rfl
    · cases h
theorem newF_nds : ∀ (l : List Nd) (es es' : List El), newF es l = .ok es' → ∀ x ∈ es', (∃ y ∈ es, x.nd = y.nd) ∨ ∃ n ∈ l, x.nd = lowN n
  | [], es, es', h, x, hx => by cases h; exact .inl ⟨x, hx, rfl⟩
  | n :: l, es, es', h, x, hx => by
    unfold newF at h
    cases ha : addV es n with
    | error e => rw [ha] at h; cases h
    | ok e2 =>
      rw [ha] at h
      rcases newF_nds l e2 es' h x hx with ⟨y, hy, e⟩ | ⟨m, hm, e⟩
      · rcases add_nds ha hy with ⟨z, hz, e'⟩ | e'
        · exact .inl ⟨z, hz, e.trans e'⟩
        · exact .inr ⟨n, List.mem_cons_self .., e.trans e'⟩
      · exact .inr ⟨m, List.mem_cons_of_mem _ hm, e⟩
theorem newV_nds {l : List Nd} {es : List El} (h : newV l = .ok es) : ∀ x ∈ es, ∃ n ∈ l, x.nd = lowN n := fun x hx => by
  unfold newV at h
  split at h
  · cases h
  · rcases newF_nds l [] es h x hx with ⟨y, hy, _⟩ | h
    · cases hy
    · exact h
theorem small_low {n : Nd} (h : SmallN n) : SmallN (lowN n) := by
  obtain ⟨h1, h2, h3, h4, h5, h6⟩ := h
  refine ⟨h1, by show (n.ats.map Dm.lowA).length ≤ 8; rw [List.length_map]; exact h2, by show (Dm.lowS n.tag).size ≤ 60; rw [Dm.lowS_size]; exact h3, h4, h5, fun a ha => ?_⟩
  obtain ⟨b, hb, rfl⟩ := List.mem_map.1 ha
  exact ⟨by show (Dm.lowS b.1).size ≤ 60; rw [Dm.lowS_size]; exact (h6 b hb).1, (h6 b hb).2⟩
/-- A tree that New has made of small nodes. -/
theorem TE.of_new {b tb : Nat} {nv dv : Value} {ns : List Nv} {ds : List Int} {es : List El} {w : World} {l : List Nv} (hR : RTr b w tb nv dv ns ds) (hE : Tells es ns ds) (hv : newV (l.map Nv.nd) = .ok es) (hs : ∀ n ∈ l, SmallN n.nd) :
    (TE.mk b tb nv dv ns ds es).At w ∧ (∀ q ∈ es, SmallN q.nd) ∧ es.length = l.length := by
  obtain ⟨h1, h2, h3⟩ := Dm.newV_ok hv
  rw [List.length_map] at h2 h3
  have hq : ∀ q ∈ es, SmallN q.nd := fun q hq => by
    obtain ⟨n, hn, e⟩ := newV_nds hv q hq
    obtain ⟨m, hm, rfl⟩ := List.mem_map.1 hn
    rw [e]
    exact small_low (hs m hm)
  refine ⟨⟨hR, hE, h1, by show es.length ≤ 4096; omega, fun n hn p hp => ?_⟩, hq, h2⟩
  have h4 : n.nd ∈ es.map El.nd := by rw [← hE.nds]; exact List.mem_map_of_mem hn
  obtain ⟨q, hqm, e⟩ := List.mem_map.1 h4
  have h5 := (hq q hqm).2.2.2.2.2 p (by rw [e]; exact hp)
  omega
/-- The bounds of the second form, as matching asks for them. -/
theorem okA_of {c : Cp} (h : CpR 1048576 c) : okA c := by
  obtain ⟨_, _, _, h4, h5⟩ := h
  refine ⟨fun a ha => by have := (h4 a ha).2.1; omega, fun q hq => ?_⟩
  obtain ⟨g1, g2⟩ := h5 q hq
  simp [Lit.wf] at g1 g2
  have hm : IntKind.i64.min = -9223372036854775808 := rfl
  unfold i64
  constructor <;> constructor <;> omega
theorem okS_of : ∀ (d : Nat) {s : Sel}, OkD 1048576 d s → okS d s
  | 0, _, h => fun p hp => okA_of (h p hp)
  | d + 1, _, h => fun p hp => ⟨okA_of (h p hp).1, fun q hq s' hs' => okS_of d ((h p hp).2 q hq s' hs')⟩
/-- A list of selectors, cut as deep as matching reads. -/
def cut9 (l : List Sel) : List Sel := (l.map (cutS 9)).map (cutS 8)
theorem cut9_len (l : List Sel) : (cut9 l).length = l.length := by unfold cut9; simp
theorem cut9_at {n : Nat} {W : World} {v : Value} {l : List Sel} (h : SelsR 11 n W v l) : SelsR 9 n W v (cut9 l) := sels_cut 9 v _ (sels_cut 10 v l h)
theorem cut9_ok {l : List Sel} (h : ∀ s ∈ l, OkD 1048576 10 s) : ∀ s ∈ cut9 l, OkD 1048576 8 s := fun s hs => by
  obtain ⟨s1, h1, rfl⟩ := List.mem_map.1 hs
  obtain ⟨s2, h2, rfl⟩ := List.mem_map.1 h1
  exact OkD_cut 8 (OkD_cut 9 (h s2 h2))

end Go.Proofs.YtchfnnoabejlpabGreat.Rf

/- Each rule that an element has is found by its buckets: plain facts; the document's Any; rules as arguments of the second form. -/
namespace Go.Proofs.YtchfnnoabejlpabGreat.Rf
open Go Go.RowKit Sl Wg Bk Go.Proofs.YtchfnnoabejlpabGreat.Tre
open Dm (El Nd parentV placeV childrenV nodeV beforeV TreeOk)

theorem selB_cut (d : Nat) (s : Sel) : selB (cutS d s) = selB s := by
  unfold selB cutS
  rw [List.getLast?_map]
  cases s.getLast? <;> rfl
theorem last_part {s : Sel} (h : 0 < s.length) : s.getLast? = some (Mt.partAt s (s.length - 1)) := by
  rw [List.getLast?_eq_getElem?]
  unfold Mt.partAt
  have hl : s.length - 1 < s.length := by omega
  rw [List.getElem?_eq_getElem hl, List.getD, List.getElem?_eq_getElem hl]
  rfl
/-- A compound that says a node's names has its bucket among the node's. -/
theorem named_bkt {nd : Nd} {c : Cp} (h : Mt.namedV nd c = true) : bktOf c ∈ bktsV ⟨nd.tag, nd.id, nd.cls⟩ := by
  unfold Mt.namedV at h
  simp only [Bool.and_eq_true, Bool.or_eq_true, decide_eq_true_eq, List.all_eq_true, List.any_eq_true] at h
  obtain ⟨⟨⟨ht, hi⟩, hc⟩, _⟩ := h
  unfold bktOf bktsV
  simp only [List.mem_append, List.mem_cons, List.not_mem_nil, or_false, List.mem_map]
  cases hci : c.ids with
  | cons x l =>
    obtain ⟨h1, h2⟩ := hi x (by rw [hci]; exact List.mem_cons_self ..)
    subst h2
    refine .inl (.inr ?_)
    rw [if_neg h1]
    exact List.mem_singleton.2 rfl
  | nil =>
    cases hcc : c.classes with
    | cons x l =>
      obtain ⟨y, hy, e⟩ := hc x (by rw [hcc]; exact List.mem_cons_self ..)
      subst e
      exact .inr ⟨y, hy, rfl⟩
    | nil =>
      simp only
      by_cases h0 : c.tag = ⟨#[]⟩
      · rw [if_pos h0]
        exact .inl (.inl (.inl rfl))
      · rw [if_neg h0]
        rcases ht with ht | ht
        · exact absurd ht h0
        · exact .inl (.inl (.inr (by rw [ht])))
theorem sel_bkt {es : List El} {e : Nat} {s : Sel} (h : selectorV es (e : Int) s = true) : ∃ b, selB s = some b ∧ b ∈ bktsV ⟨(nodeV es (e : Int)).tag, (nodeV es (e : Int)).id, (nodeV es (e : Int)).cls⟩ := by
  unfold selectorV at h
  rw [Bool.and_eq_true, Bool.and_eq_true, Int.toNat_natCast] at h
  have h2 := h.2.2
  unfold Mt.selV at h2
  rw [Bool.and_eq_true, decide_eq_true_eq] at h2
  obtain ⟨hl, hu⟩ := h2
  have hc : Mt.compV (Mt.anyV es 8) es (Mt.partAt s (s.length - 1)).2 e = true := by
    cases hk : s.length - 1 with
    | zero => rw [hk] at hu; unfold Mt.uptoV at hu; exact hu
    | succ k => rw [hk] at hu; unfold Mt.uptoV at hu; rw [Bool.and_eq_true] at hu; exact hu.1
  refine ⟨bktOf (Mt.partAt s (s.length - 1)).2, by unfold selB; rw [last_part hl]; rfl, named_bkt ?_⟩
  unfold Mt.compV at hc
  rw [Bool.and_eq_true] at hc
  exact hc.1
/-- What Any answers of a rule's selectors. -/
def ruleV (es : List El) (e : Int) (r : Rl) : Bool := r.any (fun s => selectorV es e (cutS 8 (cutS 9 s)))
theorem rule_found {es : List El} {e : Nat} {l : List Rl} {i : Nat} {r : Rl} (hr : l[i]? = some r) (h : ruleV es (e : Int) r = true) : i ∈ forV l (bktsV ⟨(nodeV es (e : Int)).tag, (nodeV es (e : Int)).id, (nodeV es (e : Int)).cls⟩) := by
  rw [forV_mem]
  refine ⟨r, hr, ?_⟩
  unfold ruleV at h
  rw [List.any_eq_true] at h
  obtain ⟨s, hs, hv⟩ := h
  obtain ⟨b, h1, h2⟩ := sel_bkt hv
  rw [selB_cut, selB_cut] at h1
  unfold hitB
  rw [List.any_eq_true]
  refine ⟨b, h2, ?_⟩
  unfold inB
  rw [List.any_eq_true]
  exact ⟨s, hs, decide_eq_true h1⟩

set_option maxRecDepth 100000 in
set_option maxHeartbeats 1000000 in
/-- The document's Any. -/
theorem given_any (T : TE) (l : Rl) (v : Value) (e : Int) (w : World) (hT : T.At w) (hv : SelsR 11 w.heap.size w v l) (hok : ∀ s ∈ l, OkD 1048576 10 s) :
    Calls Tryz.prog 11 #[T.p, .int .i64 e, v] w fun r w' => r = .returned (.bool (ruleV T.es e l)) ∧ Below w.heap.size w w' := by
  obtain ⟨q, c, rfl⟩ := RowT.len hv
  have hsh := hv.short
  unfold maxLen at hsh
  have HT : Hid (T.At w) := hT
  have HV : Hid (SelsR 11 w.heap.size w (.slice q l.length c) l) := hv
  have HOK : Hid (∀ s ∈ l, OkD 1048576 10 s) := hok
  clear hT hv hok
  go_enter Tryz.func11, Tryz.ntmps11
  go_wp2
  go_loopw [7] (fun y wr => ∃ k : Nat, y = .int .i64 k ∧ k ≤ l.length ∧ Hid ((l.take k).any (fun s => selectorV T.es e (cutS 8 (cutS 9 s))) = false) ∧ Below w.heap.size w wr) (fun y _ => l.length - (intOf y).toNat)
  case atStart => exact ⟨0, rfl, Nat.zero_le _, rfl, Below.refl _ _⟩
  case round =>
    obtain ⟨k, rfl, hk, HN, bw⟩ := hrel
    by_cases hlt : k < l.length
    · have hki : (k : Int) < (l.length : Int) := by omega
      obtain ⟨s, hs⟩ : ∃ s, l[k]? = some s := ⟨_, List.getElem?_eq_getElem hlt⟩
      obtain ⟨b, off, x, rfl, hb, hc1, hc2, hx, y0⟩ := SelsR.get (HV.out.next bw) hs
      obtain ⟨qp, cp, rfl⟩ := RowT.len hx
      have hsel := selector_any T (cutS 8 (cutS 9 s)) (.slice qp s.length cp) e wr (HT.out.next bw) (PartsR.cut (PartsR.cut hx)) (okS_of 8 (OkD_cut 8 (OkD_cut 9 (HOK.out s (List.mem_of_getElem? hs)))))
      have HNX : Hid ((l.take (k + 1)).any (fun s => selectorV T.es e (cutS 8 (cutS 9 s))) = selectorV T.es e (cutS 8 (cutS 9 s))) := by
        show _ = _
        rw [any_snoc (fun s => selectorV T.es e (cutS 8 (cutS 9 s))) hs, show (l.take k).any _ = false from HN.out, Bool.false_or]
      have HYES : Hid (selectorV T.es e (cutS 8 (cutS 9 s)) = true → ruleV T.es e l = true) := fun h => List.any_eq_true.2 ⟨s, List.mem_of_getElem? hs, h⟩
      generalize selectorV T.es e (cutS 8 (cutS 9 s)) = V at *
      unfold maxLen at hc2
      clear hx hs
      go_wp2_with fail
      refine hsel.mono ?_
      clear hsel y0
      rintro r X ⟨rfl, bX⟩
      have b2 := below_next bw bX
      cases V with
      | true =>
        have HR : Hid (ruleV T.es e l = true) := HYES.out rfl
        go_wp2
        go_ret
        exact ⟨by rw [show ruleV T.es e l = true from HR.out]; rfl, b2⟩
      | false =>
        go_wp2
        go_roundw
        case rel => exact ⟨k + 1, by go_num, by omega, HNX, b2⟩
        case measure => simp [intOf]; omega
    · have hki : ¬ (k : Int) < (l.length : Int) := by omega
      have FIN : Hid (ruleV T.es e l = false) := by
        have h := HN.out
        rw [List.take_of_length_le (by omega)] at h
        exact h
      go_wp2
      go_ret
      exact ⟨by rw [show ruleV T.es e l = false from FIN.out]; rfl, bw⟩

/-! ### rules as arguments of the second form -/
theorem row_uniqB {α : Type} {sz : Nat} {T T' : List Value → α → Prop} {n n' : Nat} {W : World} {v : Value} {l l' : List α} (h : RowT sz T n W v l) (h' : RowT sz T' n' W v l') (hT : ∀ c x y, T c x → T' c y → x = y) : l = l' := by
  rcases h with ⟨rfl, p, c, rfl⟩ | ⟨b, off, cap, rfl, h1, h2, h3, h4⟩
  · rcases h' with ⟨rfl, _⟩ | ⟨b, off, cap, e, _⟩
    · rfl
    · cases hl : l' with
      | nil => rfl
      | cons x r => rw [hl] at e; simp at e
  · rcases h' with ⟨rfl, p, c, e⟩ | ⟨b', off', cap', e, g1, g2, g3, g4⟩
    · cases hl : l with
      | nil => rfl
      | cons x r => rw [hl] at e; simp at e
    · simp only [Value.slice.injEq, Option.some.injEq, Addr.mk.injEq, and_true] at e
      obtain ⟨⟨rfl, rfl⟩, hlen, rfl⟩ := e
      refine List.ext_getElem hlen (fun j hj hj' => ?_)
      obtain ⟨c, hc, ht, hcell⟩ := h4 j _ (List.getElem?_eq_getElem hj)
      obtain ⟨c', hc', ht', hcell'⟩ := g4 j _ (List.getElem?_eq_getElem hj')
      have hcc : c = c' := List.ext_getElem (hc.trans hc'.symm) (fun i hi hi' => by
        have a := hcell i _ (List.getElem?_eq_getElem hi)
        have a' := hcell' i _ (List.getElem?_eq_getElem hi')
        rw [a] at a'
        exact Option.some.inj a')
      subst hcc
      exact hT c _ _ ht ht'
theorem cpc_uniqB {Q Q' : Value → List Sel → Prop} (hQ : ∀ v l l', Q v l → Q' v l' → l = l') {n n' : Nat} {W : World} {cs : List Value} {c c' : Cp} (h : CpC Q n W cs c) (h' : CpC Q' n' W cs c') : c = c' := by
  obtain ⟨i, k, a, p, e, r1, r2, r3, r4⟩ := h
  obtain ⟨i', k', a', p', e', g1, g2, g3, g4⟩ := h'
  rw [e] at e'
  simp only [List.cons.injEq, Value.string.injEq, and_true] at e'
  obtain ⟨ht, rfl, rfl, rfl, rfl⟩ := e'
  have q1 := row_uniqB r1 g1 (fun c x y hx hy => by
    rw [show c = _ from hx] at hy
    simpa [StrC] using hy)
  have q2 := row_uniqB r2 g2 (fun c x y hx hy => by
    rw [show c = _ from hx] at hy
    simpa [StrC] using hy)
  have q3 := row_uniqB r3 g3 (fun c x y hx hy => by
    rw [show c = _ from hx] at hy
    obtain ⟨x1, x2, x3⟩ := x
    obtain ⟨y1, y2, y3⟩ := y
    simpa [AtC] using hy)
  have q4 := row_uniqB r4 g4 (fun c x y ⟨u, hu, hx⟩ ⟨u', hu', hy⟩ => by
    rw [hu] at hu'
    obtain ⟨x1, x2, x3, x4⟩ := x
    obtain ⟨y1, y2, y3, y4⟩ := y
    simp only [List.cons.injEq, Value.int.injEq, true_and, and_true, Ps.kind, Ps.a, Ps.b] at hu'
    obtain ⟨rfl, rfl, rfl, rfl⟩ := hu'
    rw [show x4 = y4 from hQ _ _ _ hx hy])
  obtain ⟨t1, t2, t3, t4, t5⟩ := c
  obtain ⟨u1, u2, u3, u4, u5⟩ := c'
  simp only [Cp.tag, Cp.ids, Cp.classes, Cp.attrs, Cp.pss] at ht q1 q2 q3 q4
  rw [ht, q1, q2, q3, q4]
theorem pts_uniqB {Q Q' : Value → List Sel → Prop} (hQ : ∀ v l l', Q v l → Q' v l' → l = l') {n n' : Nat} {W : World} {v : Value} {s s' : Sel} (h : PtsR Q n W v s) (h' : PtsR Q' n' W v s') : s = s' :=
  row_uniqB h h' (fun c x y ⟨u, hu, hx⟩ ⟨u', hu', hy⟩ => by
    rw [hu] at hu'
    simp only [List.cons.injEq, Value.int.injEq, true_and] at hu'
    obtain ⟨h1, rfl⟩ := hu'
    exact Prod.ext h1 (cpc_uniqB hQ hx hy))
theorem sels_uniqB : ∀ (d : Nat) {n n' : Nat} {W : World} (v : Value) (l l' : List Sel), SelsR d n W v l → SelsR d n' W v l' → l = l'
  | 0, _, _, _, _, _, _, h, h' => h.1.trans h'.1.symm
  | d + 1, n, n', W, _, _, _, h, h' => row_uniqB h h' (fun c x y ⟨u, hu, hx⟩ ⟨u', hu', hy⟩ => by
    rw [hu] at hu'
    simp only [List.cons.injEq, and_true] at hu'
    subst hu'
    exact pts_uniqB (fun v l l' => sels_uniqB d v l l') hx hy)
set_option maxRecDepth 100000 in
theorem rulesUp_of {H : Type} {enc : TypeId × Value → H} {W : World} {a : Option Addr} {len cap : Nat} {d : DataW H} {p : List MemPlace} {l : List Rl} {ds : List (DataW H)}
    (h : DataW.Trod enc Tryz.prog W 0 (fun _ => true) true 22 (.slice a len cap) d p) (hl : RulesR 11 W.heap.size W (.slice a len cap) l) (hk : Rows.uptoSmall H ds = true) (hd : d ∈ ds) : ∀ r ∈ l, ∀ s ∈ r, OkD 1048576 10 s := by
  obtain ⟨fuel, hf⟩ := h
  have hb : Rows.uptoBulkAll ds ≤ 1048576 := of_decide_eq_true hk
  have : Inhabited Rl := ⟨[]⟩
  obtain ⟨l2, h1, h2, _⟩ := row_inR (R := 1048576) 2 (by decide) (fun c r => ∃ x p m k, c = [x, .slice p m k] ∧ SelsR 11 W.heap.size W x r) (fun r : Rl => ∀ s ∈ r, OkD 1048576 10 s) Tryz.underlying22 cells_rule (v := .slice a len cap) hf (Nat.le_trans (Wg.bulk_part hd) hb) (fun n cs y hy hwy hl => by
    obtain ⟨xs, n', _, rfl, _, hxl, hf⟩ := DataW.trod_struct Tryz.underlying43 hy
    match cs, hl with
    | [c0, c1], _ =>
      match xs, hxl with
      | [y0, y1], _ =>
        have f0 := hf 0 _ rfl
        have f1 := hf 1 _ rfl
        simp only [List.getElem?_cons_zero, List.getElem?_cons_succ] at f0 f1
        have f0' : DataW.trod enc Tryz.prog W 0 (fun _ => true) true n' 40 [c0] = some y0 := f0
        have f1' : DataW.trod enc Tryz.prog W 0 (fun _ => true) true n' 41 [c1] = some y1 := f1
        simp only [Rows.uptoBulk, Rows.uptoBulkAll, List.map_cons, List.map_nil] at hwy
        obtain ⟨ls, g1, g2⟩ := sels_inR 1048576 11 f0' (by omega)
        have hc1 : ∃ p m k, c1 = .slice p m k := by
          rcases Deep.open_slice Tryz.underlying41 f1' with ⟨hcs, _⟩ | ⟨x, len, cap, m, n, D, Pl, hcs, _⟩
          · cases hcs; exact ⟨_, _, _, rfl⟩
          · cases hcs; exact ⟨_, _, _, rfl⟩
        obtain ⟨p1, m1, k1, rfl⟩ := hc1
        exact ⟨ls, ⟨c0, p1, m1, k1, rfl, g1⟩, g2⟩)
  have e : l = l2 := row_uniqB hl h1 (fun c x y ⟨u, p, m, k, hu, hx⟩ ⟨u', p', m', k', hu', hy⟩ => by
    rw [hu] at hu'
    simp only [List.cons.injEq] at hu'
    obtain ⟨rfl, _⟩ := hu'
    exact sels_uniqB 11 u x y hx hy)
  rw [e]
  exact h2

end Go.Proofs.YtchfnnoabejlpabGreat.Rf
