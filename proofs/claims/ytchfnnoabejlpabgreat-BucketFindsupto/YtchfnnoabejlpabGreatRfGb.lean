/- The document's own matching (tapestrierref9): the parts of a selector, with what is known kept: front, hangs. -/
import Derived.Test.YtchfnnoabejlpabGreatRfGd
import Derived.Test.YtchfnnoabejlpabGreatMtGz
namespace Go.Proofs.YtchfnnoabejlpabGreat.Rf
open Go Go.RowKit Go.Shelf Sl Wg Bk Go.Proofs.YtchfnnoabejlpabGreat.Tre
open Dm (El parentV placeV childrenV nodeV beforeV)

/-! ### frames -/
/-- Nothing but block K was changed. -/
structure But (K : Nat) (w w' : World) : Prop where
  os : w'.os = w.os
  tape : w'.tape = w.tape
  output : w'.output = w.output
  size : w.heap.size ≤ w'.heap.size
  block : ∀ i, i < w.heap.size → i ≠ K → w'.heap[i]? = w.heap[i]?
theorem But.refl (K : Nat) (w : World) : But K w w := ⟨rfl, rfl, rfl, Nat.le_refl _, fun _ _ _ => rfl⟩
theorem But.trans {K : Nat} {a b c : World} (h : But K a b) (h' : But K b c) : But K a c := ⟨h'.os.trans h.os, h'.tape.trans h.tape, h'.output.trans h.output, Nat.le_trans h.size h'.size, fun i hi hn => (h'.block i (Nat.lt_of_lt_of_le hi h.size) hn).trans (h.block i hi hn)⟩
theorem But.of_below {K : Nat} {a b : World} (h : Below a.heap.size a b) : But K a b := ⟨h.os, h.tape, h.output, h.size, fun i hi _ => h.block i hi⟩
theorem But.alloc (K : Nat) (w : World) (o : Obj) : But K w (w.alloc o) := .of_below ((Below.refl _ w).alloc (Nat.le_refl _) o)
theorem But.set (w : World) (K i : Nat) (v : Value) : But K w (w.setCell ⟨K, i, none⟩ v) := ⟨rfl, rfl, rfl, by simp [World.setCell], fun _ _ hn => Below.heap_setCell _ _ _ _ hn⟩
theorem But.below {K n : Nat} {a b : World} (h : But K a b) (hn : n ≤ K) (hs : n ≤ a.heap.size) : Below n a b := ⟨h.os, h.tape, h.output, h.size, fun i hi => h.block i (by omega) (by omega)⟩
theorem But.blk {K B : Nat} {a b : World} {t : TypeId} {cs : List Value} (h : But K a b) (k : Blk a B t cs) (hn : B ≠ K) : Blk b B t cs := (h.block B k.lt hn).trans k

/-! ### what is known -/
/-- Block K has a number for each element and each part: 0, or 1 or 2 as it is. -/
def Kn (X : World) (K m N : Nat) (f : Nat → Nat → Bool) : Prop :=
  ∃ cs : List Int, Blk X K 3 (cs.map (Value.int .i64)) ∧ cs.length = N * m ∧ ∀ k e, k < m → e < N → cs[e * m + k]? = some 0 ∨ cs[e * m + k]? = some (if f k e then 1 else 2)
theorem Kn.kept {X Y : World} {K m N : Nat} {f : Nat → Nat → Bool} (h : Kn X K m N f) (hk : Y.heap[K]? = X.heap[K]?) : Kn Y K m N f := by
  obtain ⟨cs, h1, h2⟩ := h
  exact ⟨cs, hk.trans h1, h2⟩
theorem Kn.lt {X : World} {K m N : Nat} {f : Nat → Nat → Bool} (h : Kn X K m N f) : K < X.heap.size := by
  obtain ⟨cs, h1, _⟩ := h
  exact h1.lt
theorem at_lt {m N k e : Nat} (hk : k < m) (he : e < N) : e * m + k < N * m := by
  have h1 : (e + 1) * m ≤ N * m := Nat.mul_le_mul_right m he
  rw [Nat.add_mul, Nat.one_mul] at h1
  omega
theorem at_inj {m k e k' e' : Nat} (hk : k < m) (hk' : k' < m) (h : e * m + k = e' * m + k') : k = k' ∧ e = e' := by
  have hm : 0 < m := by omega
  have h1 : (e * m + k) % m = k := by rw [Nat.add_comm, Nat.add_mul_mod_self_right]; exact Nat.mod_eq_of_lt hk
  have h2 : (e' * m + k') % m = k' := by rw [Nat.add_comm, Nat.add_mul_mod_self_right]; exact Nat.mod_eq_of_lt hk'
  have e1 : k = k' := by rw [← h1, ← h2, h]
  subst e1
  have h3 : e * m = e' * m := by omega
  exact ⟨rfl, Nat.eq_of_mul_eq_mul_right hm h3⟩
theorem Kn.get {X : World} {K m N : Nat} {f : Nat → Nat → Bool} (h : Kn X K m N f) {k e : Nat} (hk : k < m) (he : e < N) :
    ∃ z : Int, X.cell? ⟨K, e * m + k, none⟩ = some (.int .i64 z) ∧ X.frozen? ⟨K, e * m + k, none⟩ = false ∧ (z = 0 ∨ z = if f k e then 1 else 2) := by
  obtain ⟨cs, h1, h2, h3⟩ := h
  have hb : X.heap[K]? = some (.cells (cs.map (Value.int .i64)).toArray 3 (0, 0)) := h1
  have hfz : X.frozen? ⟨K, e * m + k, none⟩ = false := by simp [World.frozen?, hb]
  rcases h3 k e hk he with h | h
  · exact ⟨0, by simp [World.cell?, hb, h], hfz, .inl rfl⟩
  · exact ⟨_, by simp [World.cell?, hb, h], hfz, .inr rfl⟩
theorem Kn.put {X : World} {K m N : Nat} {f : Nat → Nat → Bool} (h : Kn X K m N f) {k e : Nat} (hk : k < m) (he : e < N) {z : Int} (hz : z = if f k e then 1 else 2) : Kn (X.setCell ⟨K, e * m + k, none⟩ (.int .i64 z)) K m N f := by
  obtain ⟨cs, h1, h2, h3⟩ := h
  refine ⟨cs.set (e * m + k) z, ?_, by rw [List.length_set]; exact h2, fun k' e' hk' he' => ?_⟩
  · have := Dm.blk_put (show Dm.Blk _ _ _ _ from h1) (e * m + k) (.int .i64 z)
    rw [List.map_set]
    exact this
  · rw [List.getElem?_set]
    by_cases hi : e * m + k = e' * m + k'
    · obtain ⟨rfl, rfl⟩ := at_inj hk hk' hi
      rw [if_pos rfl, if_pos (by rw [h2]; exact at_lt hk he)]
      exact .inr (by rw [hz])
    · rw [if_neg hi]
      exact h3 k' e' hk' he'
theorem Kn.put2 {X : World} {K m N : Nat} {f : Nat → Nat → Bool} (h : Kn X K m N f) {k e : Nat} (hk : k < m) (he : e < N) (u : Int) {z : Int} (hz : z = if f k e then 1 else 2) : Kn ((X.setCell ⟨K, e * m + k, none⟩ (.int .i64 u)).setCell ⟨K, e * m + k, none⟩ (.int .i64 z)) K m N f := by
  obtain ⟨cs, h1, h2, h3⟩ := h
  refine ⟨cs.set (e * m + k) z, ?_, by rw [List.length_set]; exact h2, fun k' e' hk' he' => ?_⟩
  · have h4 := Dm.blk_put (Dm.blk_put (show Dm.Blk _ _ _ _ from h1) (e * m + k) (.int .i64 u)) (e * m + k) (.int .i64 z)
    rw [List.set_set] at h4
    rw [List.map_set]
    exact h4
  · rw [List.getElem?_set]
    by_cases hi : e * m + k = e' * m + k'
    · obtain ⟨rfl, rfl⟩ := at_inj hk hk' hi
      rw [if_pos rfl, if_pos (by rw [h2]; exact at_lt hk he)]
      exact .inr (by rw [hz])
    · rw [if_neg hi]
      exact h3 k' e' hk' he'

/-! ### front, hangs -/
/-- What a row of parts is asked in. -/
structure PtEnv (d : Nat) (T : TE) (s : Sel) (p : Option Addr) (cap : Nat) (w0 : World) : Prop where
  tree : T.At w0
  parts : PartsR d w0.heap.size w0 (.slice p s.length cap) s
  deep : deepS d s = false
  ok : okS d s
abbrev upV (d : Nat) (T : TE) (s : Sel) : Nat → Nat → Bool := Mt.uptoV (Mt.anyV T.es d) T.es s
def knV (K L : Nat) : Value := .slice (some ⟨K, 0, none⟩) L L
/-- What front answers of the first k + 1 parts. -/
def FrontOK (d k : Nat) : Prop := ∀ (T : TE) (s : Sel) (p : Option Addr) (cap e K : Nat) (w0 X : World), PtEnv d T s p cap w0 → e < T.es.length → k < s.length → w0.heap.size ≤ K → Below w0.heap.size w0 X → Kn X K s.length T.es.length (upV d T s) →
  Calls Tryz.prog 65 #[T.p, .int .i64 e, .agg #[.slice p s.length cap], .int .i64 ((k : Int) + 1), .int .i64 (8 - (d : Int)), .slice (some ⟨K, 0, none⟩) (T.es.length * s.length) (T.es.length * s.length)] X fun r X' => r = .returned (.bool (upV d T s k e)) ∧ But K X X' ∧ Kn X' K s.length T.es.length (upV d T s)
/-- What hangs answers of the parts ahead of part k + 1. -/
def HangsOK (d k : Nat) : Prop := ∀ (T : TE) (s : Sel) (p : Option Addr) (cap e K : Nat) (w0 X : World), PtEnv d T s p cap w0 → e < T.es.length → k + 1 < s.length → w0.heap.size ≤ K → Below w0.heap.size w0 X → Kn X K s.length T.es.length (upV d T s) →
  Calls Tryz.prog 86 #[T.p, .int .i64 e, .agg #[.slice p s.length cap], .int .i64 ((k : Int) + 2), .int .i64 (8 - (d : Int)), .slice (some ⟨K, 0, none⟩) (T.es.length * s.length) (T.es.length * s.length)] X fun r X' => r = .returned (.bool ((Mt.aheadV T.es (Mt.partAt s (k + 1)).1 e).any (upV d T s k))) ∧ But K X X' ∧ Kn X' K s.length T.es.length (upV d T s)
theorem few_parts {d : Nat} {s : Sel} (h : deepS d s = false) : s.length ≤ 50 ∧ ∀ p ∈ s, deepC d p.2 = false := by
  rw [deepS_eq, Bool.or_eq_false_iff, decide_eq_false_iff_not, List.any_eq_false] at h
  exact ⟨by omega, fun p hp => by simpa using h.2 p hp⟩

/-- What must hang ahead of part k. -/
def hangV (d : Nat) (T : TE) (s : Sel) : Nat → Nat → Bool
  | 0, _ => true
  | k + 1, e => (Mt.aheadV T.es (Mt.partAt s (k + 1)).1 e).any (upV d T s k)
theorem upV_eq (d : Nat) (T : TE) (s : Sel) {k e : Nat} {q : Pt} (hq : s[k]? = some q) : upV d T s k e = (Mt.compV (Mt.anyV T.es d) T.es q.2 e && hangV d T s k e) := by
  unfold upV
  cases k with
  | zero => rw [Mt.uptoV, Mt.partAt_eq hq, hangV, Bool.and_true]
  | succ k' => rw [Mt.uptoV, hangV, Mt.partAt_eq hq]

set_option maxRecDepth 100000 in
set_option maxHeartbeats 4000000 in
theorem front_of (d k : Nat) (HC : CompOK d) (HH : ∀ k', k = k' + 1 → HangsOK d k') : FrontOK d k := by
  intro T s p cap e K w0 X hE he hk hK hX hKn
  obtain ⟨hs50, hdc⟩ := few_parts hE.deep
  have hlen := hE.tree.len
  obtain ⟨V, hV⟩ : ∃ V, upV d T s k e = V := ⟨_, rfl⟩
  rw [hV]
  obtain ⟨q, hq⟩ : ∃ q, s[k]? = some q := ⟨_, List.getElem?_eq_getElem hk⟩
  have hVe : V = (Mt.compV (Mt.anyV T.es d) T.es q.2 e && hangV d T s k e) := by rw [← hV, upV_eq d T s hq]
  obtain ⟨X1, hX1⟩ : ∃ X1, X.alloc (.cells #[.slice p s.length cap] 50) = X1 := ⟨_, rfl⟩
  have b1 : Below X.heap.size X X1 := by rw [← hX1]; exact (Below.refl _ X).alloc (Nat.le_refl _) _
  have k1 : Blk X1 X.heap.size 50 [.slice p s.length cap] := by rw [← hX1]; exact Blk.new X _ _
  have hsX := hX.size
  have hKX := hKn.lt
  have hB1 : Below w0.heap.size w0 X1 := hX.trans (b1.mono hsX)
  have hK1 : Kn X1 K s.length T.es.length (upV d T s) := hKn.kept (b1.block K hKX)
  obtain ⟨z, hz, hzf, hzv⟩ := hK1.get hk he
  have hat := at_lt hk he
  have hml : T.es.length * s.length ≤ 204800 := Nat.mul_le_mul hlen hs50
  have hem : (e : Int) * (s.length : Int) = ((e * s.length : Nat) : Int) := by rw [Int.natCast_mul]
  obtain ⟨A, hA⟩ : ∃ A, e * s.length = A := ⟨_, rfl⟩
  rw [hA] at hem hat hz hzf
  have hw1 : IntKind.i64.wrap ((e : Int) * (s.length : Int)) = (A : Int) := by rw [hem, IntKind.wrap_i64]; omega
  obtain ⟨J, hJ⟩ : ∃ J : Int, (k : Int) + 1 = J := ⟨_, rfl⟩
  have HJ : Hid ((k : Int) + 1 = J) := hJ
  have hw2 : IntKind.i64.wrap ((A : Int) + J) = (A : Int) + J := by rw [IntKind.wrap_i64]; omega
  have hw3 : IntKind.i64.wrap ((A : Int) + J - 1) = ((A + k : Nat) : Int) := by rw [IntKind.wrap_i64]; omega
  have hw4 : IntKind.i64.wrap (J - 1) = (k : Int) := by rw [IntKind.wrap_i64]; omega
  rw [hJ]
  have c0 := (blk1 k1).1
  have HA : Hid (e * s.length = A) := hA
  have HE : Hid (PtEnv d T s p cap w0) := hE
  have HKn : Hid (Kn X1 K s.length T.es.length (upV d T s)) := hK1
  have HV : Hid (V = (Mt.compV (Mt.anyV T.es d) T.es q.2 e && hangV d T s k e)) := hVe
  have HUV : Hid (upV d T s k e = V) := hV
  have HHH : Hid (∀ k', k = k' + 1 → HangsOK d k') := HH
  obtain ⟨I, hI⟩ : ∃ I, A + k = I := ⟨_, rfl⟩
  have HI : Hid (A + k = I) := hI
  rw [hI] at hw3 hat hz hzf
  obtain ⟨L, hL⟩ : ∃ L, T.es.length * s.length = L := ⟨_, rfl⟩
  have HL : Hid (T.es.length * s.length = L) := hL
  rw [hL] at hat hml ⊢
  have hIL : (I : Int) < (L : Int) := by omega
  obtain ⟨D, hD⟩ : ∃ D : Int, 8 - (d : Int) = D := ⟨_, rfl⟩
  have HD : Hid (8 - (d : Int) = D) := hD
  rw [hD]
  have hB01 : But K X X1 := .of_below b1
  rw [hV] at hzv
  clear hV hVe hA hI hL hK1 hKn HH hD hem hdc hE hJ
  by_cases hz0 : z = 0
  · subst hz0
    -- the compound
    obtain ⟨b, off, vi, vk, va, vp, hq0, hbn, hc1, hc2, ⟨y0, y1, y2, y3, y4, y5⟩, r1, r2, r3, r4⟩ := PartsR.get HE.out.parts hq
    subst hq0
    unfold maxLen at hc2
    have hcp := HC T q.2 vi vk va vp e X1 (HE.out.tree.next hB1) he ⟨vi, vk, va, vp, rfl, (r1.below hB1 (fun _ _ h => h)).mono hB1.size (fun _ _ h => h), (r2.below hB1 (fun _ _ h => h)).mono hB1.size (fun _ _ h => h), (r3.below hB1 (fun _ _ h => h)).mono hB1.size (fun _ _ h => h), (r4.below (T' := PsC (SelsR d w0.heap.size X1)) hB1 (fun _ _ ⟨x, e, hx⟩ => ⟨x, e, hx.below d hB1⟩)).mono (T' := PsC (SelsR d X1.heap.size X1)) hB1.size (fun _ _ ⟨x, e, hx⟩ => ⟨x, e, hx.mono d hB1.size⟩)⟩ ((few_parts HE.out.deep).2 q (List.mem_of_getElem? hq)) (okS_c HE.out.ok (List.mem_of_getElem? hq))
    rw [HD.out] at hcp
    have z1 := (hB1.cell (p := ⟨b, off + k * 6 + 1, none⟩) hbn).trans y1
    have z2 := (hB1.cell (p := ⟨b, off + k * 6 + 2, none⟩) hbn).trans y2
    have z3 := (hB1.cell (p := ⟨b, off + k * 6 + 3, none⟩) hbn).trans y3
    have z4 := (hB1.cell (p := ⟨b, off + k * 6 + 4, none⟩) hbn).trans y4
    have z5 := (hB1.cell (p := ⟨b, off + k * 6 + 5, none⟩) hbn).trans y5
    obtain ⟨q1, cp1, rfl⟩ := r1.len
    obtain ⟨q2, cp2, rfl⟩ := r2.len
    obtain ⟨q3, cp3, rfl⟩ := r3.len
    obtain ⟨q4, cp4, rfl⟩ := r4.len
    have hkl : (k : Int) < (s.length : Int) := by omega
    generalize hCV : Mt.compV (Mt.anyV T.es d) T.es q.2 e = CV at hcp HV
    have HB1 : Hid (_ ∧ _ ∧ _) := ⟨hB1, hB01, k1⟩
    clear hzv y0 y1 y2 y3 y4 y5 r1 r2 r3 r4 hq hCV hc1 hB1 hB01 k1 b1
    cases CV with
    | false =>
      obtain rfl : V = false := by rw [HV.out, Bool.false_and]
      clear HV HHH
      go_enter Tryz.func65, Tryz.ntmps65
      go_wp2_with fail
      go_at_call 85
      refine Calls.mono hcp ?_
      clear hcp z1 z2 z3 z4 z5 c0 hz hzf hX1
      rintro r X2 ⟨rfl, b2⟩
      have hK2 : Kn X2 K s.length T.es.length (upV d T s) := HKn.out.kept (b2.block K HKn.out.lt)
      obtain ⟨z, hz, hzf, _⟩ := hK2.get hk he
      rw [HA.out, HI.out] at hz hzf
      have hK3 := hK2.put hk he (z := 2) (by rw [HUV.out]; rfl)
      rw [HA.out, HI.out] at hK3
      have FIN : Hid (But K X (X2.setCell ⟨K, I, none⟩ (.int .i64 2)) ∧ Kn (X2.setCell ⟨K, I, none⟩ (.int .i64 2)) K s.length T.es.length (upV d T s)) := ⟨(HB1.out.2.1.trans (.of_below b2)).trans (.set X2 K I _), hK3⟩
      clear hK2 hK3 b2
      go_wp2
      go_ret
      exact ⟨rfl, FIN.out⟩
    | true =>
      have HV2 : Hid (V = hangV d T s k e) := by show _ = _; rw [HV.out, Bool.true_and]
      clear HV
      by_cases hk0 : k = 0
      · obtain rfl : V = true := by rw [HV2.out, hk0]; rfl
        have hJ1 : (J == 1) = true := by
          have := HJ.out
          rw [beq_iff_eq]; omega
        clear HV2 HHH hk0
        go_enter Tryz.func65, Tryz.ntmps65
        go_wp2_with fail
        go_at_call 85
        refine Calls.mono hcp ?_
        clear hcp z1 z2 z3 z4 z5 c0 hz hzf hX1
        rintro r X2 ⟨rfl, b2⟩
        have hK2 : Kn X2 K s.length T.es.length (upV d T s) := HKn.out.kept (b2.block K HKn.out.lt)
        obtain ⟨z, hz, hzf, _⟩ := hK2.get hk he
        rw [HA.out, HI.out] at hz hzf
        have hK3 := hK2.put2 hk he 2 (z := 1) (by rw [HUV.out]; rfl)
        rw [HA.out, HI.out] at hK3
        have FIN : Hid (But K X ((X2.setCell ⟨K, I, none⟩ (.int .i64 2)).setCell ⟨K, I, none⟩ (.int .i64 1)) ∧ Kn ((X2.setCell ⟨K, I, none⟩ (.int .i64 2)).setCell ⟨K, I, none⟩ (.int .i64 1)) K s.length T.es.length (upV d T s)) := ⟨((HB1.out.2.1.trans (.of_below b2)).trans (.set X2 K I _)).trans (.set _ K I _), hK3⟩
        clear hK2 hK3 b2
        go_wp2
        go_ret
        exact ⟨rfl, FIN.out⟩
      · obtain ⟨k', hkk⟩ : ∃ k', k = k' + 1 := ⟨k - 1, by omega⟩
        have hJ1 : (J == 1) = false := by
          have := HJ.out
          rw [beq_eq_false_iff_ne]; omega
        have HHG : Hid (∀ X2, Below X1.heap.size X1 X2 → Calls Tryz.prog 86 #[T.p, .int .i64 e, .agg #[.slice (some ⟨b, off, none⟩) s.length cap], .int .i64 J, .int .i64 D, .slice (some ⟨K, 0, none⟩) L L] X2 fun r X' => r = .returned (.bool V) ∧ But K X2 X' ∧ Kn X' K s.length T.es.length (upV d T s)) := fun X2 b2 => by
          have h := HHH.out k' hkk T s (some ⟨b, off, none⟩) cap e K w0 X2 HE.out he (by omega) hK (HB1.out.1.trans (b2.mono (by have := HB1.out.1.size; omega))) (HKn.out.kept (b2.block K HKn.out.lt))
          rw [HD.out, HL.out, show (k' : Int) + 2 = J by have := HJ.out; omega] at h
          rw [HV2.out, hkk]
          exact h
        clear HV2 HHH hkk hk0
        go_enter Tryz.func65, Tryz.ntmps65
        go_wp2_with fail
        go_at_call 85
        refine Calls.mono hcp ?_
        clear hcp z1 z2 z3 z4 z5 c0 hz hzf hX1
        rintro r X2 ⟨rfl, b2⟩
        have hcall := HHG.out X2 b2
        have c0 := (blk1 (HB1.out.2.2.below b2 HB1.out.2.2.lt)).1
        have HB2 : Hid (But K X X2) := HB1.out.2.1.trans (.of_below b2)
        clear b2 HHG
        go_wp2_with fail
        go_at_call 86
        refine Calls.mono hcall ?_
        clear hcall c0
        rintro r X3 ⟨rfl, b3, hK3⟩
        obtain ⟨z, hz, hzf, _⟩ := hK3.get hk he
        rw [HA.out, HI.out] at hz hzf
        cases V with
        | true =>
          have hK4 := hK3.put2 hk he 2 (z := 1) (by rw [HUV.out]; rfl)
          rw [HA.out, HI.out] at hK4
          have FIN : Hid (But K X ((X3.setCell ⟨K, I, none⟩ (.int .i64 2)).setCell ⟨K, I, none⟩ (.int .i64 1)) ∧ Kn ((X3.setCell ⟨K, I, none⟩ (.int .i64 2)).setCell ⟨K, I, none⟩ (.int .i64 1)) K s.length T.es.length (upV d T s)) := ⟨((HB2.out.trans b3).trans (.set X3 K I _)).trans (.set _ K I _), hK4⟩
          clear hK3 hK4 b3
          go_wp2
          go_ret
          exact ⟨rfl, FIN.out⟩
        | false =>
          have hK4 := hK3.put hk he (z := 2) (by rw [HUV.out]; rfl)
          rw [HA.out, HI.out] at hK4
          have FIN : Hid (But K X (X3.setCell ⟨K, I, none⟩ (.int .i64 2)) ∧ Kn (X3.setCell ⟨K, I, none⟩ (.int .i64 2)) K s.length T.es.length (upV d T s)) := ⟨(HB2.out.trans b3).trans (.set X3 K I _), hK4⟩
          clear hK3 hK4 b3
          go_wp2
          go_ret
          exact ⟨rfl, FIN.out⟩
  · have hzb : (z == 0) = false := by simpa using hz0
    have hzV : z = if V then 1 else 2 := hzv.resolve_left hz0
    have FIN : Hid (But K X X1 ∧ Kn X1 K s.length T.es.length (upV d T s)) := ⟨hB01, HKn.out⟩
    clear hzv hz0 HV HHH hB1 hB01 k1 b1 hq
    cases V with
    | true =>
      obtain rfl : z = 1 := hzV
      go_enter Tryz.func65, Tryz.ntmps65
      go_wp2
      go_ret
      exact ⟨rfl, FIN.out⟩
    | false =>
      obtain rfl : z = 2 := hzV
      go_enter Tryz.func65, Tryz.ntmps65
      go_wp2
      go_ret
      exact ⟨rfl, FIN.out⟩

end Go.Proofs.YtchfnnoabejlpabGreat.Rf

/- The document's own matching (tapestrierref9): what must hang ahead of a part: hangs. -/
namespace Go.Proofs.YtchfnnoabejlpabGreat.Rf
open Go Go.RowKit Go.Shelf Sl Wg Bk Go.Proofs.YtchfnnoabejlpabGreat.Tre
open Dm (El parentV placeV childrenV nodeV beforeV TreeOk)

/-- What is left to ask, where x is the next one. -/
def remV (d : Nat) (T : TE) (s : Sel) (k : Nat) (comb x : Int) : Bool := if x = -1 then false else upV d T s k x.toNat || (Mt.aheadV T.es comb x.toNat).any (upV d T s k)
theorem any_rem (d : Nat) (T : TE) (s : Sel) (k : Nat) (hO : TreeOk T.es) {comb : Int} {e : Nat} (he : e < T.es.length) (hf : Mt.farV comb = true := by decide) : (Mt.aheadV T.es comb e).any (upV d T s k) = remV d T s k comb (Mt.nextV T.es comb e) := by
  rw [Mt.ahead_next hO he, hf]
  unfold remV
  split
  · rfl
  · rw [if_pos rfl, List.any_cons]
theorem rem_step (d : Nat) (T : TE) (s : Sel) (k : Nat) (hO : TreeOk T.es) {comb : Int} (hf : Mt.farV comb = true) {n : Nat} (hn : n < T.es.length) : remV d T s k comb (n : Int) = (upV d T s k n || remV d T s k comb (Mt.nextV T.es comb n)) := by
  rw [← any_rem d T s k hO hn hf]
  unfold remV
  rw [if_neg (by omega), Int.toNat_natCast]

set_option maxRecDepth 100000 in
set_option maxHeartbeats 4000000 in
theorem hangs_of (d k : Nat) (HF : FrontOK d k) : HangsOK d k := by
  intro T s p cap e Kb w0 X hE he hk hKb hX hKn
  obtain ⟨hs50, _⟩ := few_parts hE.deep
  have hlen := hE.tree.len
  obtain ⟨M, hM⟩ : ∃ M, k + 1 = M := ⟨_, rfl⟩
  obtain ⟨V, hV⟩ : ∃ V, (Mt.aheadV T.es (Mt.partAt s (k + 1)).1 e).any (upV d T s k) = V := ⟨_, rfl⟩
  rw [hV]
  rw [hM] at hk hV
  obtain ⟨q, hq⟩ : ∃ q, s[M]? = some q := ⟨_, List.getElem?_eq_getElem hk⟩
  rw [Mt.partAt_eq hq] at hV
  obtain ⟨X1, hX1⟩ : ∃ X1, X.alloc (.cells #[.slice p s.length cap] 50) = X1 := ⟨_, rfl⟩
  have b1 : Below X.heap.size X X1 := by rw [← hX1]; exact (Below.refl _ X).alloc (Nat.le_refl _) _
  have k1 : Blk X1 X.heap.size 50 [.slice p s.length cap] := by rw [← hX1]; exact Blk.new X _ _
  have hsX := hX.size
  have hKX := hKn.lt
  have hB1 : Below w0.heap.size w0 X1 := hX.trans (b1.mono hsX)
  have HKn : Hid (Kn X1 Kb s.length T.es.length (upV d T s)) := hKn.kept (b1.block Kb hKX)
  have HE : Hid (PtEnv d T s p cap w0) := hE
  have HBB : Hid (∀ Y, But Kb X1 Y → Below w0.heap.size w0 Y) := fun Y hY => hB1.trans (hY.below hKb hB1.size)
  have HFR : Hid (∀ (x : Nat) (Y : World), x < T.es.length → But Kb X1 Y → Kn Y Kb s.length T.es.length (upV d T s) → Calls Tryz.prog 65 #[T.p, .int .i64 x, .agg #[.slice p s.length cap], .int .i64 (M : Int), .int .i64 (8 - (d : Int)), .slice (some ⟨Kb, 0, none⟩) (T.es.length * s.length) (T.es.length * s.length)] Y fun r X' => r = .returned (.bool (upV d T s k x)) ∧ But Kb Y X' ∧ Kn X' Kb s.length T.es.length (upV d T s)) := fun x Y h1 h2 h3 => by
    have h := HF T s p cap x Kb w0 Y HE.out h1 (by omega) hKb (HBB.out Y h2) h3
    rw [show (k : Int) + 1 = (M : Int) by omega] at h
    exact h
  have HB1 : Hid (Below w0.heap.size w0 X1 ∧ But Kb X X1 ∧ Blk X1 X.heap.size 50 [.slice p s.length cap] ∧ X.heap.size ≠ Kb) := ⟨hB1, .of_below b1, k1, by omega⟩
  obtain ⟨b, off, _, _, _, _, hq0, hbn, hc1, hc2, ⟨y0, _⟩, _⟩ := PartsR.get HE.out.parts hq
  subst hq0
  unfold maxLen at hc2
  replace y0 := (hB1.cell (p := ⟨b, off + M * 6, none⟩) hbn).trans y0
  have c0 := (blk1 k1).1
  obtain ⟨J, hJ⟩ : ∃ J : Int, (k : Int) + 2 = J := ⟨_, rfl⟩
  rw [hJ]
  have hw1 : IntKind.i64.wrap (J - 1) = (M : Int) := by rw [IntKind.wrap_i64]; omega
  have hMl : (M : Int) < (s.length : Int) := by omega
  obtain ⟨L, hL⟩ : ∃ L, T.es.length * s.length = L := ⟨_, rfl⟩
  obtain ⟨D, hD⟩ : ∃ D : Int, 8 - (d : Int) = D := ⟨_, rfl⟩
  rw [hL, hD] at HFR ⊢
  have HV : Hid (V = (Mt.aheadV T.es q.1 e).any (upV d T s k)) := hV.symm
  clear hV hL hD hJ hM HF hE hKn hc1 hk
  by_cases h12 : q.1 = 1 ∨ q.1 = 4
  · rcases h12 with oq | oq
    · have HR0 : Hid (V = remV d T s k 1 (parentV T.es e)) := by
        show _ = _
        rw [HV.out, oq, any_rem d T s k HE.out.tree.ok he]
        rfl
      have hfn := parent_any T e X1 (HE.out.tree.next hB1)
      have p1 : (q.1 == 1) = true := by rw [oq]; rfl
      have hnx := Mt.parentV_lt HE.out.tree.ok he
      clear hq HV oq hB1 k1 b1
      go_enter Tryz.func86, Tryz.ntmps86
      go_wp2_with fail
      go_at_call 105
      refine Calls.mono hfn ?_
      clear hfn c0 y0 hX1
      rintro r X2 ⟨rfl, hww⟩
      obtain rfl := hww.symm
      clear hww
      have b2 : But Kb X1 X1 := But.refl Kb X1
      have hK2 : Kn X1 Kb s.length T.es.length (upV d T s) := HKn.out
      generalize parentV T.es (e : Int) = x0 at *
      have HS : Hid (_ ∧ _ ∧ _) := ⟨hnx, b2, hK2⟩
      clear hnx b2 hK2
      go_wp2
      go_loopw [13] (fun y wr => ∃ x : Int, y = .int .i64 x ∧ (x = -1 ∨ ∃ n : Nat, x = (n : Int) ∧ n < T.es.length) ∧ Hid (V = remV d T s k 1 x) ∧ But Kb X1 wr ∧ Kn wr Kb s.length T.es.length (upV d T s)) (fun y _ => (intOf y + 1).toNat)
      case atStart => exact ⟨x0, rfl, HS.out.1.imp_right (fun ⟨j, h1, h2⟩ => ⟨j, h1, by omega⟩), HR0, HS.out.2.1, HS.out.2.2⟩
      case round =>
        clear HS HR0
        obtain ⟨x, rfl, hx, HR, bt, hKt⟩ := hrel
        rcases hx with rfl | ⟨n, rfl, hn⟩
        · obtain rfl : V = false := HR.out
          have FIN : Hid (But Kb X wr ∧ Kn wr Kb s.length T.es.length (upV d T s)) := ⟨HB1.out.2.1.trans bt, hKt⟩
          clear bt hKt HR
          go_wp2
          go_ret
          exact ⟨rfl, FIN.out⟩
        · have hcall := HFR.out n wr hn bt hKt
          have c0 := (blk1 (bt.blk HB1.out.2.2.1 HB1.out.2.2.2)).1
          have hn0 : (0 : Int) ≤ (n : Int) := by omega
          have HRS : Hid (V = (upV d T s k n || remV d T s k 1 (parentV T.es n))) := by
            show _ = _
            rw [HR.out, rem_step d T s k HE.out.tree.ok (by decide) hn]
            rfl
          generalize hUV : upV d T s k n = UV at hcall
          have HUV : Hid (upV d T s k n = UV) := hUV
          rw [hUV] at HRS
          clear hUV HR hKt
          go_wp2_with fail
          go_at_call 65
          refine Calls.mono hcall ?_
          clear hcall c0
          rintro r X3 ⟨rfl, b3, hK3⟩
          cases UV with
          | true =>
            obtain rfl : V = true := by rw [HRS.out, Bool.true_or]
            have FIN : Hid (But Kb X X3 ∧ Kn X3 Kb s.length T.es.length (upV d T s)) := ⟨(HB1.out.2.1.trans bt).trans b3, hK3⟩
            clear bt b3 hK3 HRS HUV
            go_wp2
            go_ret
            exact ⟨rfl, FIN.out⟩
          | false =>
            have HR1 : Hid (V = remV d T s k 1 (parentV T.es n)) := by show _ = _; rw [HRS.out, Bool.false_or]
            have hp3 := parent_any T n X3 (HE.out.tree.next (HBB.out X3 (bt.trans b3)))
            have hnx := Mt.parentV_lt HE.out.tree.ok hn
            have HP : Hid (_ ∧ _ ∧ _ ∧ _) := ⟨bt, b3, hK3, hnx⟩
            clear HRS HUV bt b3 hK3 hnx
            go_wp2_with fail
            go_at_call 105
            refine Calls.mono hp3 ?_
            clear hp3
            obtain ⟨bt, b3, hK3, hnx⟩ := HP.out
            rintro r X4 ⟨rfl, hww⟩
            have b4 : But Kb X1 X4 := by rw [hww]; exact bt.trans b3
            have hK4 : Kn X4 Kb s.length T.es.length (upV d T s) := by rw [hww]; exact hK3
            generalize parentV T.es (n : Int) = x1 at *
            have HQ : Hid (_ ∧ _ ∧ _) := ⟨b4, hK4, hnx⟩
            clear hww bt b3 hK3 b4 hK4 hnx HP
            go_wp2
            obtain ⟨b4, hK4, hnx⟩ := HQ.out
            go_roundw
            case rel => exact ⟨x1, rfl, hnx.imp_right (fun ⟨j, h1, h2⟩ => ⟨j, h1, by omega⟩), HR1, b4, hK4⟩
            case measure => rcases hnx with h | ⟨j, h, h2⟩ <;> simp [intOf, h] <;> omega
    · have HR0 : Hid (V = remV d T s k 4 (beforeV T.es e)) := by
        show _ = _
        rw [HV.out, oq, any_rem d T s k HE.out.tree.ok he]
        rfl
      have hfn := before_any T e X1 (HE.out.tree.next hB1)
      have p4 : (q.1 == 4) = true := by rw [oq]; rfl
      have p1 : (q.1 == 1) = false := by rw [oq]; rfl
      have p2 : (q.1 == 2) = false := by rw [oq]; rfl
      have p3 : (q.1 == 3) = false := by rw [oq]; rfl
      have hnx := Mt.beforeV_lt HE.out.tree.ok he
      clear hq HV oq hB1 k1 b1
      go_enter Tryz.func86, Tryz.ntmps86
      go_wp2_with fail
      go_at_call 106
      refine Calls.mono hfn ?_
      clear hfn c0 y0 hX1
      rintro r X2 ⟨rfl, n, hww⟩
      have b2 : But Kb X1 X2 := by rw [hww]; exact .of_below (below_drawn X1 n)
      have hK2 : Kn X2 Kb s.length T.es.length (upV d T s) := by rw [hww]; exact HKn.out.kept rfl
      clear hww
      generalize beforeV T.es (e : Int) = x0 at *
      have HS : Hid (_ ∧ _ ∧ _) := ⟨hnx, b2, hK2⟩
      clear hnx b2 hK2
      go_wp2
      go_loopw [15] (fun y wr => ∃ x : Int, y = .int .i64 x ∧ (x = -1 ∨ ∃ n : Nat, x = (n : Int) ∧ n < T.es.length) ∧ Hid (V = remV d T s k 4 x) ∧ But Kb X1 wr ∧ Kn wr Kb s.length T.es.length (upV d T s)) (fun y _ => (intOf y + 1).toNat)
      case atStart => exact ⟨x0, rfl, HS.out.1.imp_right (fun ⟨j, h1, h2⟩ => ⟨j, h1, by omega⟩), HR0, HS.out.2.1, HS.out.2.2⟩
      case round =>
        clear HS HR0
        obtain ⟨x, rfl, hx, HR, bt, hKt⟩ := hrel
        rcases hx with rfl | ⟨n, rfl, hn⟩
        · obtain rfl : V = false := HR.out
          have FIN : Hid (But Kb X wr ∧ Kn wr Kb s.length T.es.length (upV d T s)) := ⟨HB1.out.2.1.trans bt, hKt⟩
          clear bt hKt HR
          go_wp2
          go_ret
          exact ⟨rfl, FIN.out⟩
        · have hcall := HFR.out n wr hn bt hKt
          have c0 := (blk1 (bt.blk HB1.out.2.2.1 HB1.out.2.2.2)).1
          have hn0 : (0 : Int) ≤ (n : Int) := by omega
          have HRS : Hid (V = (upV d T s k n || remV d T s k 4 (beforeV T.es n))) := by
            show _ = _
            rw [HR.out, rem_step d T s k HE.out.tree.ok (by decide) hn]
            rfl
          generalize hUV : upV d T s k n = UV at hcall
          have HUV : Hid (upV d T s k n = UV) := hUV
          rw [hUV] at HRS
          clear hUV HR hKt
          go_wp2_with fail
          go_at_call 65
          refine Calls.mono hcall ?_
          clear hcall c0
          rintro r X3 ⟨rfl, b3, hK3⟩
          cases UV with
          | true =>
            obtain rfl : V = true := by rw [HRS.out, Bool.true_or]
            have FIN : Hid (But Kb X X3 ∧ Kn X3 Kb s.length T.es.length (upV d T s)) := ⟨(HB1.out.2.1.trans bt).trans b3, hK3⟩
            clear bt b3 hK3 HRS HUV
            go_wp2
            go_ret
            exact ⟨rfl, FIN.out⟩
          | false =>
            have HR1 : Hid (V = remV d T s k 4 (beforeV T.es n)) := by show _ = _; rw [HRS.out, Bool.false_or]
            have hp3 := before_any T n X3 (HE.out.tree.next (HBB.out X3 (bt.trans b3)))
            have hnx := Mt.beforeV_lt HE.out.tree.ok hn
            have HP : Hid (_ ∧ _ ∧ _ ∧ _) := ⟨bt, b3, hK3, hnx⟩
            clear HRS HUV bt b3 hK3 hnx
            go_wp2_with fail
            go_at_call 106
            refine Calls.mono hp3 ?_
            clear hp3
            obtain ⟨bt, b3, hK3, hnx⟩ := HP.out
            rintro r X4 ⟨rfl, n', hww⟩
            have b4 : But Kb X1 X4 := by rw [hww]; exact (bt.trans b3).trans (.of_below (below_drawn X3 n'))
            have hK4 : Kn X4 Kb s.length T.es.length (upV d T s) := by rw [hww]; exact hK3.kept rfl
            generalize beforeV T.es (n : Int) = x1 at *
            have HQ : Hid (_ ∧ _ ∧ _) := ⟨b4, hK4, hnx⟩
            clear hww bt b3 hK3 b4 hK4 hnx HP
            go_wp2
            obtain ⟨b4, hK4, hnx⟩ := HQ.out
            go_roundw
            case rel => exact ⟨x1, rfl, hnx.imp_right (fun ⟨j, h1, h2⟩ => ⟨j, h1, by omega⟩), HR1, b4, hK4⟩
            case measure => rcases hnx with h | ⟨j, h, h2⟩ <;> simp [intOf, h] <;> omega
  · by_cases h23 : q.1 = 2 ∨ q.1 = 3
    · rcases h23 with oq | oq
      · have hV1 : V = if parentV T.es e = -1 then false else upV d T s k (parentV T.es e).toNat := by
          rw [HV.out, oq, Mt.ahead_next HE.out.tree.ok he]
          show List.any (if parentV T.es e = -1 then [] else (parentV T.es e).toNat :: (if false = true then _ else [])) _ = _
          split <;> simp
        have HFN : Hid (∀ Y, But Kb X1 Y → Calls Tryz.prog 105 #[T.p, .int .i64 e] Y fun x w' => x = .returned (.int .i64 (parentV T.es e)) ∧ w' = Y) := fun Y hY => parent_any T e Y (HE.out.tree.next (HBB.out Y hY))
        have p2 : (q.1 == 2) = true := by rw [oq]; rfl
        have o1 : (q.1 == 1) = false := by rw [oq]; rfl
        
        have hnx := Mt.parentV_lt HE.out.tree.ok he
        have HSt : Hid (∀ Y, But Kb X1 Y → Y.cell? ⟨X.heap.size, 0, none⟩ = some (.slice (some ⟨b, off, none⟩) s.length cap)) := fun Y hY => (blk1 (hY.blk HB1.out.2.2.1 HB1.out.2.2.2)).1
        clear hq HV oq hB1 k1 b1
        generalize parentV T.es (e : Int) = x0 at *
        rcases hnx with rfl | ⟨n, rfl, hn⟩
        · obtain rfl : V = false := hV1
          go_enter Tryz.func86, Tryz.ntmps86
          go_upto_region 10 with fail
          first | rw [hX1] | skip
          clear hX1 c0 y0
          refine Rg.wpD_begin [0, 1, 2, 3, 4, 5, 6, 7, 8, 9, 10, 11, 12, 13, 14] (fun Y => Y.cell? ⟨X.heap.size, 0, none⟩ = some (.slice (some ⟨b, off, none⟩) s.length cap)) (by kernel_rfl) ?_
          have q0 : But Kb X1 X1.drew := .of_below (below_drew (Below.refl _ _))
          have HeldS := HSt.out _ q0
          refine Rg.wpD_load 0 (v := ?_) (by simp only [List.getElem?_toArray, List.getElem?_cons_zero]; rfl) (by kernel_rfl) (by kernel_rfl) (by intro _ _ _ h; exact h) HeldS (by rfl) (fun wz hz => ?_) ?_
          rotate_left
          · first | (go_simp; done) | (go_simp; with_reducible rfl)
          simp only [Act.put, List.setIfInBounds_toArray, List.set_cons_succ, List.set_cons_zero]
          refine Rg.wpD_load 1 (v := ?_) (by simp only [List.getElem?_toArray, List.getElem?_cons_succ, List.getElem?_cons_zero]; rfl) (by kernel_rfl) (by kernel_rfl) (by intro _ _ _ h; exact h) HeldS (by rfl) (fun wz hz => ?_) ?_
          rotate_left
          · first | (go_simp; done) | (go_simp; with_reducible rfl)
          simp only [Act.put, List.setIfInBounds_toArray, List.set_cons_succ, List.set_cons_zero]
          refine Rg.wpD_do 2 (by kernel_rfl) (by simp only [List.getElem?_toArray, List.getElem?_cons_succ, List.getElem?_cons_zero]; rfl) (fun K hK => ?_)
          go_simp
          go_at_call 105
          refine Calls.mono (HFN.out _ q0) ?_
          rintro r X2 ⟨rfl, hww⟩
          have b2 : But Kb X1 X2 := by rw [hww]; exact .of_below (below_drew (Below.refl _ _))
          have hK2 : Kn X2 Kb s.length T.es.length (upV d T s) := by rw [hww]; exact HKn.out.kept rfl
          clear hww
          refine hK _ _ (fun _ => HSt.out _ b2) ?_
          clear hK K HeldS
          have HeldS := HSt.out _ b2
          refine Rg.wpD_load 3 (v := ?_) (by simp only [List.getElem?_toArray, List.getElem?_cons_succ, List.getElem?_cons_zero]; rfl) (by kernel_rfl) (by kernel_rfl) (by intro _ _ _ h; exact h) HeldS (by rfl) (fun wz hz => ?_) ?_
          rotate_left
          · first | (go_simp; done) | (go_simp; with_reducible rfl)
          simp only [Act.put, List.setIfInBounds_toArray, List.set_cons_succ, List.set_cons_zero]
          refine Rg.wpD_load 4 (v := ?_) (by simp only [List.getElem?_toArray, List.getElem?_cons_succ, List.getElem?_cons_zero]; rfl) (by kernel_rfl) (by kernel_rfl) (by intro _ _ _ h; exact h) HeldS (by rfl) (fun wz hz => ?_) ?_
          rotate_left
          · first | (go_simp; done) | (go_simp; with_reducible rfl)
          simp only [Act.put, List.setIfInBounds_toArray, List.set_cons_succ, List.set_cons_zero]
          refine Rg.wpD_skip 5 (by simp only [List.getElem?_toArray, List.getElem?_cons_succ, List.getElem?_cons_zero]; rfl) (by kernel_rfl) (by kernel_rfl) (by intro _ _ _ h; exact h) HeldS (by rfl) ?_
          simp only [Act.put, List.setIfInBounds_toArray, List.set_cons_succ, List.set_cons_zero]
          refine Rg.wpD_skip 6 (by simp only [List.getElem?_toArray, List.getElem?_cons_succ, List.getElem?_cons_zero]; rfl) (by kernel_rfl) (by kernel_rfl) (by intro _ _ _ h; exact h) HeldS (by rfl) ?_
          simp only [Act.put, List.setIfInBounds_toArray, List.set_cons_succ, List.set_cons_zero]
          refine Rg.wpD_skip 7 (by simp only [List.getElem?_toArray, List.getElem?_cons_succ, List.getElem?_cons_zero]; rfl) (by kernel_rfl) (by kernel_rfl) (by intro _ _ _ h; exact h) HeldS (by rfl) ?_
          simp only [Act.put, List.setIfInBounds_toArray, List.set_cons_succ, List.set_cons_zero]
          refine Rg.wpD_skip 8 (by simp only [List.getElem?_toArray, List.getElem?_cons_succ, List.getElem?_cons_zero]; rfl) (by kernel_rfl) (by kernel_rfl) (by intro _ _ _ h; exact h) HeldS (by rfl) ?_
          simp only [Act.put, List.setIfInBounds_toArray, List.set_cons_succ, List.set_cons_zero]
          refine Rg.wpD_skip 9 (by simp only [List.getElem?_toArray, List.getElem?_cons_succ, List.getElem?_cons_zero]; rfl) (by kernel_rfl) (by kernel_rfl) (by intro _ _ _ h; exact h) HeldS (by rfl) ?_
          simp only [Act.put, List.setIfInBounds_toArray, List.set_cons_succ, List.set_cons_zero]
          refine Rg.wpD_skip 10 (by simp only [List.getElem?_toArray, List.getElem?_cons_succ, List.getElem?_cons_zero]; rfl) (by kernel_rfl) (by kernel_rfl) (by intro _ _ _ h; exact h) HeldS (by rfl) ?_
          simp only [Act.put, List.setIfInBounds_toArray, List.set_cons_succ, List.set_cons_zero]
          refine Rg.wpD_skip 11 (by simp only [List.getElem?_toArray, List.getElem?_cons_succ, List.getElem?_cons_zero]; rfl) (by kernel_rfl) (by kernel_rfl) (by intro _ _ _ h; exact h) HeldS (by rfl) ?_
          simp only [Act.put, List.setIfInBounds_toArray, List.set_cons_succ, List.set_cons_zero]
          refine Rg.wpD_skip 12 (by simp only [List.getElem?_toArray, List.getElem?_cons_succ, List.getElem?_cons_zero]; rfl) (by kernel_rfl) (by kernel_rfl) (by intro _ _ _ h; exact h) HeldS (by rfl) ?_
          simp only [Act.put, List.setIfInBounds_toArray, List.set_cons_succ, List.set_cons_zero]
          refine Rg.wpD_skip 13 (by simp only [List.getElem?_toArray, List.getElem?_cons_succ, List.getElem?_cons_zero]; rfl) (by kernel_rfl) (by kernel_rfl) (by intro _ _ _ h; exact h) HeldS (by rfl) ?_
          simp only [Act.put, List.setIfInBounds_toArray, List.set_cons_succ, List.set_cons_zero]
          refine Rg.wpD_skip 14 (by simp only [List.getElem?_toArray, List.getElem?_cons_succ, List.getElem?_cons_zero]; rfl) (by kernel_rfl) (by kernel_rfl) (by intro _ _ _ h; exact h) HeldS (by rfl) ?_
          simp only [Act.put, List.setIfInBounds_toArray, List.set_cons_succ, List.set_cons_zero]
          refine Rg.wpD_pure 15 (v := ?_) (by simp only [List.getElem?_toArray, List.getElem?_cons_succ, List.getElem?_cons_zero]; rfl) (by kernel_rfl) (by kernel_rfl) (by intro _ _ _ h; exact h) (by rfl) (fun wz => ?_) ?_
          rotate_left
          · first | (go_simp; done) | (go_simp; with_reducible rfl)
          simp only [Act.put, List.setIfInBounds_toArray, List.set_cons_succ, List.set_cons_zero]
          refine Rg.wpD_pure 16 (v := ?_) (by simp only [List.getElem?_toArray, List.getElem?_cons_succ, List.getElem?_cons_zero]; rfl) (by kernel_rfl) (by kernel_rfl) (by intro _ _ _ h; exact h) (by rfl) (fun wz => ?_) ?_
          rotate_left
          · first | (go_simp; done) | (go_simp; with_reducible rfl)
          simp only [Act.put, List.setIfInBounds_toArray, List.set_cons_succ, List.set_cons_zero]
          refine Rg.wpD_done (by kernel_rfl) ?_
          have FIN : Hid (But Kb X X2 ∧ Kn X2 Kb s.length T.es.length (upV d T s)) := ⟨HB1.out.2.1.trans b2, hK2⟩
          clear b2 hK2 q0 HSt HFN
          go_wp2
          go_ret
          exact ⟨rfl, FIN.out⟩
        · have hn2 : n < T.es.length := by omega
          obtain rfl : V = upV d T s k n := by rw [hV1, if_neg (by omega), Int.toNat_natCast]
          have hn0 : (0 : Int) ≤ (n : Int) := by omega
          clear hV1
          generalize hUV : upV d T s k n = UV
          have HFR1 : Hid (∀ Y, But Kb X1 Y → Kn Y Kb s.length T.es.length (upV d T s) → Calls Tryz.prog 65 #[T.p, .int .i64 n, .agg #[.slice (some ⟨b, off, none⟩) s.length cap], .int .i64 (M : Int), .int .i64 D, .slice (some ⟨Kb, 0, none⟩) L L] Y fun r X' => r = .returned (.bool UV) ∧ But Kb Y X' ∧ Kn X' Kb s.length T.es.length (upV d T s)) := fun Y h1 h2 => by
            have h := HFR.out n Y hn2 h1 h2
            rw [hUV] at h
            exact h
          clear hUV
          go_enter Tryz.func86, Tryz.ntmps86
          go_upto_region 10 with fail
          first | rw [hX1] | skip
          clear hX1 c0 y0
          refine Rg.wpD_begin [0, 1, 2, 3, 4, 5, 6, 7, 8, 9, 10, 11, 12, 13] (fun Y => Y.cell? ⟨X.heap.size, 0, none⟩ = some (.slice (some ⟨b, off, none⟩) s.length cap)) (by kernel_rfl) ?_
          have q0 : But Kb X1 X1.drew := .of_below (below_drew (Below.refl _ _))
          have HeldS := HSt.out _ q0
          refine Rg.wpD_load 0 (v := ?_) (by simp only [List.getElem?_toArray, List.getElem?_cons_zero]; rfl) (by kernel_rfl) (by kernel_rfl) (by intro _ _ _ h; exact h) HeldS (by rfl) (fun wz hz => ?_) ?_
          rotate_left
          · first | (go_simp; done) | (go_simp; with_reducible rfl)
          simp only [Act.put, List.setIfInBounds_toArray, List.set_cons_succ, List.set_cons_zero]
          refine Rg.wpD_load 1 (v := ?_) (by simp only [List.getElem?_toArray, List.getElem?_cons_succ, List.getElem?_cons_zero]; rfl) (by kernel_rfl) (by kernel_rfl) (by intro _ _ _ h; exact h) HeldS (by rfl) (fun wz hz => ?_) ?_
          rotate_left
          · first | (go_simp; done) | (go_simp; with_reducible rfl)
          simp only [Act.put, List.setIfInBounds_toArray, List.set_cons_succ, List.set_cons_zero]
          refine Rg.wpD_do 2 (by kernel_rfl) (by simp only [List.getElem?_toArray, List.getElem?_cons_succ, List.getElem?_cons_zero]; rfl) (fun K hK => ?_)
          go_simp
          go_at_call 105
          refine Calls.mono (HFN.out _ q0) ?_
          rintro r X2 ⟨rfl, hww⟩
          have b2 : But Kb X1 X2 := by rw [hww]; exact .of_below (below_drew (Below.refl _ _))
          have hK2 : Kn X2 Kb s.length T.es.length (upV d T s) := by rw [hww]; exact HKn.out.kept rfl
          clear hww
          refine hK _ _ (fun _ => HSt.out _ b2) ?_
          clear hK K HeldS
          have HeldS := HSt.out _ b2
          refine Rg.wpD_load 3 (v := ?_) (by simp only [List.getElem?_toArray, List.getElem?_cons_succ, List.getElem?_cons_zero]; rfl) (by kernel_rfl) (by kernel_rfl) (by intro _ _ _ h; exact h) HeldS (by rfl) (fun wz hz => ?_) ?_
          rotate_left
          · first | (go_simp; done) | (go_simp; with_reducible rfl)
          simp only [Act.put, List.setIfInBounds_toArray, List.set_cons_succ, List.set_cons_zero]
          refine Rg.wpD_load 4 (v := ?_) (by simp only [List.getElem?_toArray, List.getElem?_cons_succ, List.getElem?_cons_zero]; rfl) (by kernel_rfl) (by kernel_rfl) (by intro _ _ _ h; exact h) HeldS (by rfl) (fun wz hz => ?_) ?_
          rotate_left
          · first | (go_simp; done) | (go_simp; with_reducible rfl)
          simp only [Act.put, List.setIfInBounds_toArray, List.set_cons_succ, List.set_cons_zero]
          refine Rg.wpD_load 5 (v := ?_) (by simp only [List.getElem?_toArray, List.getElem?_cons_succ, List.getElem?_cons_zero]; rfl) (by kernel_rfl) (by kernel_rfl) (by intro _ _ _ h; exact h) HeldS (by rfl) (fun wz hz => ?_) ?_
          rotate_left
          · first | (go_simp; done) | (go_simp; with_reducible rfl)
          simp only [Act.put, List.setIfInBounds_toArray, List.set_cons_succ, List.set_cons_zero]
          refine Rg.wpD_load 6 (v := ?_) (by simp only [List.getElem?_toArray, List.getElem?_cons_succ, List.getElem?_cons_zero]; rfl) (by kernel_rfl) (by kernel_rfl) (by intro _ _ _ h; exact h) HeldS (by rfl) (fun wz hz => ?_) ?_
          rotate_left
          · first | (go_simp; done) | (go_simp; with_reducible rfl)
          simp only [Act.put, List.setIfInBounds_toArray, List.set_cons_succ, List.set_cons_zero]
          refine Rg.wpD_load 7 (v := ?_) (by simp only [List.getElem?_toArray, List.getElem?_cons_succ, List.getElem?_cons_zero]; rfl) (by kernel_rfl) (by kernel_rfl) (by intro _ _ _ h; exact h) HeldS (by rfl) (fun wz hz => ?_) ?_
          rotate_left
          · first | (go_simp; done) | (go_simp; with_reducible rfl)
          simp only [Act.put, List.setIfInBounds_toArray, List.set_cons_succ, List.set_cons_zero]
          refine Rg.wpD_load 9 (v := ?_) (by simp only [List.getElem?_toArray, List.getElem?_cons_succ, List.getElem?_cons_zero]; rfl) (by kernel_rfl) (by kernel_rfl) (by intro _ _ _ h; exact h) HeldS (by rfl) (fun wz hz => ?_) ?_
          rotate_left
          · first | (go_simp; done) | (go_simp; with_reducible rfl)
          simp only [Act.put, List.setIfInBounds_toArray, List.set_cons_succ, List.set_cons_zero]
          refine Rg.wpD_load 10 (v := ?_) (by simp only [List.getElem?_toArray, List.getElem?_cons_succ, List.getElem?_cons_zero]; rfl) (by kernel_rfl) (by kernel_rfl) (by intro _ _ _ h; exact h) HeldS (by rfl) (fun wz hz => ?_) ?_
          rotate_left
          · first | (go_simp; done) | (go_simp; with_reducible rfl)
          simp only [Act.put, List.setIfInBounds_toArray, List.set_cons_succ, List.set_cons_zero]
          refine Rg.wpD_load 11 (v := ?_) (by simp only [List.getElem?_toArray, List.getElem?_cons_succ, List.getElem?_cons_zero]; rfl) (by kernel_rfl) (by kernel_rfl) (by intro _ _ _ h; exact h) HeldS (by rfl) (fun wz hz => ?_) ?_
          rotate_left
          · first | (go_simp; done) | (go_simp; with_reducible rfl)
          simp only [Act.put, List.setIfInBounds_toArray, List.set_cons_succ, List.set_cons_zero]
          refine Rg.wpD_load 12 (v := ?_) (by simp only [List.getElem?_toArray, List.getElem?_cons_succ, List.getElem?_cons_zero]; rfl) (by kernel_rfl) (by kernel_rfl) (by intro _ _ _ h; exact h) HeldS (by rfl) (fun wz hz => ?_) ?_
          rotate_left
          · first | (go_simp; done) | (go_simp; with_reducible rfl)
          simp only [Act.put, List.setIfInBounds_toArray, List.set_cons_succ, List.set_cons_zero]
          refine Rg.wpD_load 13 (v := ?_) (by simp only [List.getElem?_toArray, List.getElem?_cons_succ, List.getElem?_cons_zero]; rfl) (by kernel_rfl) (by kernel_rfl) (by intro _ _ _ h; exact h) HeldS (by rfl) (fun wz hz => ?_) ?_
          rotate_left
          · first | (go_simp; done) | (go_simp; with_reducible rfl)
          simp only [Act.put, List.setIfInBounds_toArray, List.set_cons_succ, List.set_cons_zero]
          refine Rg.wpD_do 8 (by kernel_rfl) (by simp only [List.getElem?_toArray, List.getElem?_cons_succ, List.getElem?_cons_zero]; rfl) (fun K hK => ?_)
          go_simp
          go_at_call 105
          refine Calls.mono (HFN.out _ b2) ?_
          rintro r X3 ⟨rfl, hww⟩
          have b3 : But Kb X1 X3 := by rw [hww]; exact b2
          have hK3 : Kn X3 Kb s.length T.es.length (upV d T s) := by rw [hww]; exact hK2.kept rfl
          clear hww
          refine hK _ _ (fun _ => HSt.out _ b3) ?_
          clear hK K HeldS
          refine Rg.wpD_do 14 (by kernel_rfl) (by simp only [List.getElem?_toArray, List.getElem?_cons_succ, List.getElem?_cons_zero]; rfl) (fun K hK => ?_)
          go_simp
          go_at_call 65
          refine Calls.mono (HFR1.out _ b3 hK3) ?_
          rintro r X4 ⟨rfl, b4, hK4⟩
          refine hK _ _ (fun h => absurd h (by decide)) ?_
          clear hK K
          refine Rg.wpD_pure 15 (v := ?_) (by simp only [List.getElem?_toArray, List.getElem?_cons_succ, List.getElem?_cons_zero]; rfl) (by kernel_rfl) (by kernel_rfl) (by intro _ _ _ h; exact h) (by rfl) (fun wz => ?_) ?_
          rotate_left
          · first | (go_simp; done) | (go_simp; with_reducible rfl)
          simp only [Act.put, List.setIfInBounds_toArray, List.set_cons_succ, List.set_cons_zero]
          refine Rg.wpD_pure 16 (v := ?_) (by simp only [List.getElem?_toArray, List.getElem?_cons_succ, List.getElem?_cons_zero]; rfl) (by kernel_rfl) (by kernel_rfl) (by intro _ _ _ h; exact h) (by rfl) (fun wz => ?_) ?_
          rotate_left
          · first | (go_simp; done) | (go_simp; with_reducible rfl)
          simp only [Act.put, List.setIfInBounds_toArray, List.set_cons_succ, List.set_cons_zero]
          refine Rg.wpD_done (by kernel_rfl) ?_
          have FIN : Hid (But Kb X X4 ∧ Kn X4 Kb s.length T.es.length (upV d T s)) := ⟨(HB1.out.2.1.trans b3).trans b4, hK4⟩
          clear b2 b3 b4 hK2 hK3 hK4 q0 HSt HFN HFR1
          go_wp2
          go_ret
          exact ⟨rfl, FIN.out⟩
      · have hV1 : V = if beforeV T.es e = -1 then false else upV d T s k (beforeV T.es e).toNat := by
          rw [HV.out, oq, Mt.ahead_next HE.out.tree.ok he]
          show List.any (if beforeV T.es e = -1 then [] else (beforeV T.es e).toNat :: (if false = true then _ else [])) _ = _
          split <;> simp
        have HFN : Hid (∀ Y, But Kb X1 Y → Calls Tryz.prog 106 #[T.p, .int .i64 e] Y fun x w' => x = .returned (.int .i64 (beforeV T.es e)) ∧ ∃ n, w' = Y.drewN n) := fun Y hY => before_any T e Y (HE.out.tree.next (HBB.out Y hY))
        have p3 : (q.1 == 3) = true := by rw [oq]; rfl
        have o1 : (q.1 == 1) = false := by rw [oq]; rfl
        have o2 : (q.1 == 2) = false := by rw [oq]; rfl
        have hnx := Mt.beforeV_lt HE.out.tree.ok he
        have HSt : Hid (∀ Y, But Kb X1 Y → Y.cell? ⟨X.heap.size, 0, none⟩ = some (.slice (some ⟨b, off, none⟩) s.length cap)) := fun Y hY => (blk1 (hY.blk HB1.out.2.2.1 HB1.out.2.2.2)).1
        clear hq HV oq hB1 k1 b1
        generalize beforeV T.es (e : Int) = x0 at *
        rcases hnx with rfl | ⟨n, rfl, hn⟩
        · obtain rfl : V = false := hV1
          go_enter Tryz.func86, Tryz.ntmps86
          go_upto_region 12 with fail
          first | rw [hX1] | skip
          clear hX1 c0 y0
          refine Rg.wpD_begin [0, 1, 2, 3, 4, 5, 6, 7, 8, 9, 10, 11, 12, 13, 14] (fun Y => Y.cell? ⟨X.heap.size, 0, none⟩ = some (.slice (some ⟨b, off, none⟩) s.length cap)) (by kernel_rfl) ?_
          have q0 : But Kb X1 X1.drew := .of_below (below_drew (Below.refl _ _))
          have HeldS := HSt.out _ q0
          refine Rg.wpD_load 0 (v := ?_) (by simp only [List.getElem?_toArray, List.getElem?_cons_zero]; rfl) (by kernel_rfl) (by kernel_rfl) (by intro _ _ _ h; exact h) HeldS (by rfl) (fun wz hz => ?_) ?_
          rotate_left
          · first | (go_simp; done) | (go_simp; with_reducible rfl)
          simp only [Act.put, List.setIfInBounds_toArray, List.set_cons_succ, List.set_cons_zero]
          refine Rg.wpD_load 1 (v := ?_) (by simp only [List.getElem?_toArray, List.getElem?_cons_succ, List.getElem?_cons_zero]; rfl) (by kernel_rfl) (by kernel_rfl) (by intro _ _ _ h; exact h) HeldS (by rfl) (fun wz hz => ?_) ?_
          rotate_left
          · first | (go_simp; done) | (go_simp; with_reducible rfl)
          simp only [Act.put, List.setIfInBounds_toArray, List.set_cons_succ, List.set_cons_zero]
          refine Rg.wpD_do 2 (by kernel_rfl) (by simp only [List.getElem?_toArray, List.getElem?_cons_succ, List.getElem?_cons_zero]; rfl) (fun K hK => ?_)
          go_simp
          go_at_call 106
          refine Calls.mono (HFN.out _ q0) ?_
          rintro r X2 ⟨rfl, n2, hww⟩
          have b2 : But Kb X1 X2 := by rw [hww]; exact .of_below (below_drewN' (below_drew (Below.refl _ _)) n2)
          have hK2 : Kn X2 Kb s.length T.es.length (upV d T s) := by rw [hww]; exact HKn.out.kept rfl
          clear hww
          refine hK _ _ (fun _ => HSt.out _ b2) ?_
          clear hK K HeldS
          have HeldS := HSt.out _ b2
          refine Rg.wpD_load 3 (v := ?_) (by simp only [List.getElem?_toArray, List.getElem?_cons_succ, List.getElem?_cons_zero]; rfl) (by kernel_rfl) (by kernel_rfl) (by intro _ _ _ h; exact h) HeldS (by rfl) (fun wz hz => ?_) ?_
          rotate_left
          · first | (go_simp; done) | (go_simp; with_reducible rfl)
          simp only [Act.put, List.setIfInBounds_toArray, List.set_cons_succ, List.set_cons_zero]
          refine Rg.wpD_load 4 (v := ?_) (by simp only [List.getElem?_toArray, List.getElem?_cons_succ, List.getElem?_cons_zero]; rfl) (by kernel_rfl) (by kernel_rfl) (by intro _ _ _ h; exact h) HeldS (by rfl) (fun wz hz => ?_) ?_
          rotate_left
          · first | (go_simp; done) | (go_simp; with_reducible rfl)
          simp only [Act.put, List.setIfInBounds_toArray, List.set_cons_succ, List.set_cons_zero]
          refine Rg.wpD_skip 5 (by simp only [List.getElem?_toArray, List.getElem?_cons_succ, List.getElem?_cons_zero]; rfl) (by kernel_rfl) (by kernel_rfl) (by intro _ _ _ h; exact h) HeldS (by rfl) ?_
          simp only [Act.put, List.setIfInBounds_toArray, List.set_cons_succ, List.set_cons_zero]
          refine Rg.wpD_skip 6 (by simp only [List.getElem?_toArray, List.getElem?_cons_succ, List.getElem?_cons_zero]; rfl) (by kernel_rfl) (by kernel_rfl) (by intro _ _ _ h; exact h) HeldS (by rfl) ?_
          simp only [Act.put, List.setIfInBounds_toArray, List.set_cons_succ, List.set_cons_zero]
          refine Rg.wpD_skip 7 (by simp only [List.getElem?_toArray, List.getElem?_cons_succ, List.getElem?_cons_zero]; rfl) (by kernel_rfl) (by kernel_rfl) (by intro _ _ _ h; exact h) HeldS (by rfl) ?_
          simp only [Act.put, List.setIfInBounds_toArray, List.set_cons_succ, List.set_cons_zero]
          refine Rg.wpD_skip 8 (by simp only [List.getElem?_toArray, List.getElem?_cons_succ, List.getElem?_cons_zero]; rfl) (by kernel_rfl) (by kernel_rfl) (by intro _ _ _ h; exact h) HeldS (by rfl) ?_
          simp only [Act.put, List.setIfInBounds_toArray, List.set_cons_succ, List.set_cons_zero]
          refine Rg.wpD_skip 9 (by simp only [List.getElem?_toArray, List.getElem?_cons_succ, List.getElem?_cons_zero]; rfl) (by kernel_rfl) (by kernel_rfl) (by intro _ _ _ h; exact h) HeldS (by rfl) ?_
          simp only [Act.put, List.setIfInBounds_toArray, List.set_cons_succ, List.set_cons_zero]
          refine Rg.wpD_skip 10 (by simp only [List.getElem?_toArray, List.getElem?_cons_succ, List.getElem?_cons_zero]; rfl) (by kernel_rfl) (by kernel_rfl) (by intro _ _ _ h; exact h) HeldS (by rfl) ?_
          simp only [Act.put, List.setIfInBounds_toArray, List.set_cons_succ, List.set_cons_zero]
          refine Rg.wpD_skip 11 (by simp only [List.getElem?_toArray, List.getElem?_cons_succ, List.getElem?_cons_zero]; rfl) (by kernel_rfl) (by kernel_rfl) (by intro _ _ _ h; exact h) HeldS (by rfl) ?_
          simp only [Act.put, List.setIfInBounds_toArray, List.set_cons_succ, List.set_cons_zero]
          refine Rg.wpD_skip 12 (by simp only [List.getElem?_toArray, List.getElem?_cons_succ, List.getElem?_cons_zero]; rfl) (by kernel_rfl) (by kernel_rfl) (by intro _ _ _ h; exact h) HeldS (by rfl) ?_
          simp only [Act.put, List.setIfInBounds_toArray, List.set_cons_succ, List.set_cons_zero]
          refine Rg.wpD_skip 13 (by simp only [List.getElem?_toArray, List.getElem?_cons_succ, List.getElem?_cons_zero]; rfl) (by kernel_rfl) (by kernel_rfl) (by intro _ _ _ h; exact h) HeldS (by rfl) ?_
          simp only [Act.put, List.setIfInBounds_toArray, List.set_cons_succ, List.set_cons_zero]
          refine Rg.wpD_skip 14 (by simp only [List.getElem?_toArray, List.getElem?_cons_succ, List.getElem?_cons_zero]; rfl) (by kernel_rfl) (by kernel_rfl) (by intro _ _ _ h; exact h) HeldS (by rfl) ?_
          simp only [Act.put, List.setIfInBounds_toArray, List.set_cons_succ, List.set_cons_zero]
          refine Rg.wpD_pure 15 (v := ?_) (by simp only [List.getElem?_toArray, List.getElem?_cons_succ, List.getElem?_cons_zero]; rfl) (by kernel_rfl) (by kernel_rfl) (by intro _ _ _ h; exact h) (by rfl) (fun wz => ?_) ?_
          rotate_left
          · first | (go_simp; done) | (go_simp; with_reducible rfl)
          simp only [Act.put, List.setIfInBounds_toArray, List.set_cons_succ, List.set_cons_zero]
          refine Rg.wpD_pure 16 (v := ?_) (by simp only [List.getElem?_toArray, List.getElem?_cons_succ, List.getElem?_cons_zero]; rfl) (by kernel_rfl) (by kernel_rfl) (by intro _ _ _ h; exact h) (by rfl) (fun wz => ?_) ?_
          rotate_left
          · first | (go_simp; done) | (go_simp; with_reducible rfl)
          simp only [Act.put, List.setIfInBounds_toArray, List.set_cons_succ, List.set_cons_zero]
          refine Rg.wpD_done (by kernel_rfl) ?_
          have FIN : Hid (But Kb X X2 ∧ Kn X2 Kb s.length T.es.length (upV d T s)) := ⟨HB1.out.2.1.trans b2, hK2⟩
          clear b2 hK2 q0 HSt HFN
          go_wp2
          go_ret
          exact ⟨rfl, FIN.out⟩
        · have hn2 : n < T.es.length := by omega
          obtain rfl : V = upV d T s k n := by rw [hV1, if_neg (by omega), Int.toNat_natCast]
          have hn0 : (0 : Int) ≤ (n : Int) := by omega
          clear hV1
          generalize hUV : upV d T s k n = UV
          have HFR1 : Hid (∀ Y, But Kb X1 Y → Kn Y Kb s.length T.es.length (upV d T s) → Calls Tryz.prog 65 #[T.p, .int .i64 n, .agg #[.slice (some ⟨b, off, none⟩) s.length cap], .int .i64 (M : Int), .int .i64 D, .slice (some ⟨Kb, 0, none⟩) L L] Y fun r X' => r = .returned (.bool UV) ∧ But Kb Y X' ∧ Kn X' Kb s.length T.es.length (upV d T s)) := fun Y h1 h2 => by
            have h := HFR.out n Y hn2 h1 h2
            rw [hUV] at h
            exact h
          clear hUV
          go_enter Tryz.func86, Tryz.ntmps86
          go_upto_region 12 with fail
          first | rw [hX1] | skip
          clear hX1 c0 y0
          refine Rg.wpD_begin [0, 1, 2, 3, 4, 5, 6, 7, 8, 9, 10, 11, 12, 13] (fun Y => Y.cell? ⟨X.heap.size, 0, none⟩ = some (.slice (some ⟨b, off, none⟩) s.length cap)) (by kernel_rfl) ?_
          have q0 : But Kb X1 X1.drew := .of_below (below_drew (Below.refl _ _))
          have HeldS := HSt.out _ q0
          refine Rg.wpD_load 0 (v := ?_) (by simp only [List.getElem?_toArray, List.getElem?_cons_zero]; rfl) (by kernel_rfl) (by kernel_rfl) (by intro _ _ _ h; exact h) HeldS (by rfl) (fun wz hz => ?_) ?_
          rotate_left
          · first | (go_simp; done) | (go_simp; with_reducible rfl)
          simp only [Act.put, List.setIfInBounds_toArray, List.set_cons_succ, List.set_cons_zero]
          refine Rg.wpD_load 1 (v := ?_) (by simp only [List.getElem?_toArray, List.getElem?_cons_succ, List.getElem?_cons_zero]; rfl) (by kernel_rfl) (by kernel_rfl) (by intro _ _ _ h; exact h) HeldS (by rfl) (fun wz hz => ?_) ?_
          rotate_left
          · first | (go_simp; done) | (go_simp; with_reducible rfl)
          simp only [Act.put, List.setIfInBounds_toArray, List.set_cons_succ, List.set_cons_zero]
          refine Rg.wpD_do 2 (by kernel_rfl) (by simp only [List.getElem?_toArray, List.getElem?_cons_succ, List.getElem?_cons_zero]; rfl) (fun K hK => ?_)
          go_simp
          go_at_call 106
          refine Calls.mono (HFN.out _ q0) ?_
          rintro r X2 ⟨rfl, n2, hww⟩
          have b2 : But Kb X1 X2 := by rw [hww]; exact .of_below (below_drewN' (below_drew (Below.refl _ _)) n2)
          have hK2 : Kn X2 Kb s.length T.es.length (upV d T s) := by rw [hww]; exact HKn.out.kept rfl
          clear hww
          refine hK _ _ (fun _ => HSt.out _ b2) ?_
          clear hK K HeldS
          have HeldS := HSt.out _ b2
          refine Rg.wpD_load 3 (v := ?_) (by simp only [List.getElem?_toArray, List.getElem?_cons_succ, List.getElem?_cons_zero]; rfl) (by kernel_rfl) (by kernel_rfl) (by intro _ _ _ h; exact h) HeldS (by rfl) (fun wz hz => ?_) ?_
          rotate_left
          · first | (go_simp; done) | (go_simp; with_reducible rfl)
          simp only [Act.put, List.setIfInBounds_toArray, List.set_cons_succ, List.set_cons_zero]
          refine Rg.wpD_load 4 (v := ?_) (by simp only [List.getElem?_toArray, List.getElem?_cons_succ, List.getElem?_cons_zero]; rfl) (by kernel_rfl) (by kernel_rfl) (by intro _ _ _ h; exact h) HeldS (by rfl) (fun wz hz => ?_) ?_
          rotate_left
          · first | (go_simp; done) | (go_simp; with_reducible rfl)
          simp only [Act.put, List.setIfInBounds_toArray, List.set_cons_succ, List.set_cons_zero]
          refine Rg.wpD_load 5 (v := ?_) (by simp only [List.getElem?_toArray, List.getElem?_cons_succ, List.getElem?_cons_zero]; rfl) (by kernel_rfl) (by kernel_rfl) (by intro _ _ _ h; exact h) HeldS (by rfl) (fun wz hz => ?_) ?_
          rotate_left
          · first | (go_simp; done) | (go_simp; with_reducible rfl)
          simp only [Act.put, List.setIfInBounds_toArray, List.set_cons_succ, List.set_cons_zero]
          refine Rg.wpD_load 6 (v := ?_) (by simp only [List.getElem?_toArray, List.getElem?_cons_succ, List.getElem?_cons_zero]; rfl) (by kernel_rfl) (by kernel_rfl) (by intro _ _ _ h; exact h) HeldS (by rfl) (fun wz hz => ?_) ?_
          rotate_left
          · first | (go_simp; done) | (go_simp; with_reducible rfl)
          simp only [Act.put, List.setIfInBounds_toArray, List.set_cons_succ, List.set_cons_zero]
          refine Rg.wpD_load 7 (v := ?_) (by simp only [List.getElem?_toArray, List.getElem?_cons_succ, List.getElem?_cons_zero]; rfl) (by kernel_rfl) (by kernel_rfl) (by intro _ _ _ h; exact h) HeldS (by rfl) (fun wz hz => ?_) ?_
          rotate_left
          · first | (go_simp; done) | (go_simp; with_reducible rfl)
          simp only [Act.put, List.setIfInBounds_toArray, List.set_cons_succ, List.set_cons_zero]
          refine Rg.wpD_load 9 (v := ?_) (by simp only [List.getElem?_toArray, List.getElem?_cons_succ, List.getElem?_cons_zero]; rfl) (by kernel_rfl) (by kernel_rfl) (by intro _ _ _ h; exact h) HeldS (by rfl) (fun wz hz => ?_) ?_
          rotate_left
          · first | (go_simp; done) | (go_simp; with_reducible rfl)
          simp only [Act.put, List.setIfInBounds_toArray, List.set_cons_succ, List.set_cons_zero]
          refine Rg.wpD_load 10 (v := ?_) (by simp only [List.getElem?_toArray, List.getElem?_cons_succ, List.getElem?_cons_zero]; rfl) (by kernel_rfl) (by kernel_rfl) (by intro _ _ _ h; exact h) HeldS (by rfl) (fun wz hz => ?_) ?_
          rotate_left
          · first | (go_simp; done) | (go_simp; with_reducible rfl)
          simp only [Act.put, List.setIfInBounds_toArray, List.set_cons_succ, List.set_cons_zero]
          refine Rg.wpD_load 11 (v := ?_) (by simp only [List.getElem?_toArray, List.getElem?_cons_succ, List.getElem?_cons_zero]; rfl) (by kernel_rfl) (by kernel_rfl) (by intro _ _ _ h; exact h) HeldS (by rfl) (fun wz hz => ?_) ?_
          rotate_left
          · first | (go_simp; done) | (go_simp; with_reducible rfl)
          simp only [Act.put, List.setIfInBounds_toArray, List.set_cons_succ, List.set_cons_zero]
          refine Rg.wpD_load 12 (v := ?_) (by simp only [List.getElem?_toArray, List.getElem?_cons_succ, List.getElem?_cons_zero]; rfl) (by kernel_rfl) (by kernel_rfl) (by intro _ _ _ h; exact h) HeldS (by rfl) (fun wz hz => ?_) ?_
          rotate_left
          · first | (go_simp; done) | (go_simp; with_reducible rfl)
          simp only [Act.put, List.setIfInBounds_toArray, List.set_cons_succ, List.set_cons_zero]
          refine Rg.wpD_load 13 (v := ?_) (by simp only [List.getElem?_toArray, List.getElem?_cons_succ, List.getElem?_cons_zero]; rfl) (by kernel_rfl) (by kernel_rfl) (by intro _ _ _ h; exact h) HeldS (by rfl) (fun wz hz => ?_) ?_
          rotate_left
          · first | (go_simp; done) | (go_simp; with_reducible rfl)
          simp only [Act.put, List.setIfInBounds_toArray, List.set_cons_succ, List.set_cons_zero]
          refine Rg.wpD_do 8 (by kernel_rfl) (by simp only [List.getElem?_toArray, List.getElem?_cons_succ, List.getElem?_cons_zero]; rfl) (fun K hK => ?_)
          go_simp
          go_at_call 106
          refine Calls.mono (HFN.out _ b2) ?_
          rintro r X3 ⟨rfl, n3, hww⟩
          have b3 : But Kb X1 X3 := by rw [hww]; exact b2.trans (.of_below (below_drawn X2 n3))
          have hK3 : Kn X3 Kb s.length T.es.length (upV d T s) := by rw [hww]; exact hK2.kept rfl
          clear hww
          refine hK _ _ (fun _ => HSt.out _ b3) ?_
          clear hK K HeldS
          refine Rg.wpD_do 14 (by kernel_rfl) (by simp only [List.getElem?_toArray, List.getElem?_cons_succ, List.getElem?_cons_zero]; rfl) (fun K hK => ?_)
          go_simp
          go_at_call 65
          refine Calls.mono (HFR1.out _ b3 hK3) ?_
          rintro r X4 ⟨rfl, b4, hK4⟩
          refine hK _ _ (fun h => absurd h (by decide)) ?_
          clear hK K
          refine Rg.wpD_pure 15 (v := ?_) (by simp only [List.getElem?_toArray, List.getElem?_cons_succ, List.getElem?_cons_zero]; rfl) (by kernel_rfl) (by kernel_rfl) (by intro _ _ _ h; exact h) (by rfl) (fun wz => ?_) ?_
          rotate_left
          · first | (go_simp; done) | (go_simp; with_reducible rfl)
          simp only [Act.put, List.setIfInBounds_toArray, List.set_cons_succ, List.set_cons_zero]
          refine Rg.wpD_pure 16 (v := ?_) (by simp only [List.getElem?_toArray, List.getElem?_cons_succ, List.getElem?_cons_zero]; rfl) (by kernel_rfl) (by kernel_rfl) (by intro _ _ _ h; exact h) (by rfl) (fun wz => ?_) ?_
          rotate_left
          · first | (go_simp; done) | (go_simp; with_reducible rfl)
          simp only [Act.put, List.setIfInBounds_toArray, List.set_cons_succ, List.set_cons_zero]
          refine Rg.wpD_done (by kernel_rfl) ?_
          have FIN : Hid (But Kb X X4 ∧ Kn X4 Kb s.length T.es.length (upV d T s)) := ⟨(HB1.out.2.1.trans b3).trans b4, hK4⟩
          clear b2 b3 b4 hK2 hK3 hK4 q0 HSt HFN HFR1
          go_wp2
          go_ret
          exact ⟨rfl, FIN.out⟩

    · obtain rfl : V = false := by
        rw [HV.out, Mt.ahead_next HE.out.tree.ok he]
        have : Mt.nextV T.es q.1 e = -1 := by
          unfold Mt.nextV
          rw [if_neg (fun h => h.elim (fun h => h12 (.inl h)) (fun h => h23 (.inl h))), if_neg (fun h => h.elim (fun h => h23 (.inr h)) (fun h => h12 (.inr h)))]
        rw [this]
        rfl
      have p1 : (q.1 == 1) = false := by rw [beq_eq_false_iff_ne]; exact fun h => h12 (.inl h)
      have p4 : (q.1 == 4) = false := by rw [beq_eq_false_iff_ne]; exact fun h => h12 (.inr h)
      have p2 : (q.1 == 2) = false := by rw [beq_eq_false_iff_ne]; exact fun h => h23 (.inl h)
      have p3 : (q.1 == 3) = false := by rw [beq_eq_false_iff_ne]; exact fun h => h23 (.inr h)
      have FIN : Hid (But Kb X X1 ∧ Kn X1 Kb s.length T.es.length (upV d T s)) := ⟨HB1.out.2.1, HKn.out⟩
      clear h12 h23 HV hq hB1 k1 b1
      go_enter Tryz.func86, Tryz.ntmps86
      go_wp2
      go_ret
      exact ⟨rfl, FIN.out⟩

end Go.Proofs.YtchfnnoabejlpabGreat.Rf
