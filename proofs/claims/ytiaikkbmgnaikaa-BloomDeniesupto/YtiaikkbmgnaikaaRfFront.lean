/- The document's own matching (tapestrierref9): the parts of a selector, with what is known kept: front, hangs. -/
import Derived.Test.YtiaikkbmgnaikaaRfComp
import Derived.Test.YtiaikkbmgnaikaaMtNext
namespace Go.Proofs.Ytiaikkbmgnaikaa.Rf
open Go Go.RowKit Go.Shelf Sl Wg Bk Go.Proofs.Ytiaikkbmgnaikaa.Tre
open Dm (El parentV placeV childrenV nodeV beforeV)

/-! ### frames -/
/-- Nothing but block K was changed. -/
structure But (K : Nat) (w w' : World) : Prop where
  os : w'.os = w.os
  tape : w'.tape = w.tape
  output : w'.output = w.output
  size : w.heap.size ≤ w'.heap.size
  block : ∀ i, i < w.heap.size → i ≠ K → w'.heap[i]? = w.heap[i]?
theorem But.refl (K : Nat) (w : World) : But K w w := ⟨rfl, rfl, rfl, Nat.le_refl _, fun _ _ _ => rfl⟩
theorem But.trans {K : Nat} {a b c : World} (h : But K a b) (h' : But K b c) : But K a c := ⟨h'.os.trans h.os, h'.tape.trans h.tape, h'.output.trans h.output, Nat.le_trans h.size h'.size, fun i hi hn => (h'.block i (Nat.lt_of_lt_of_le hi h.size) hn).trans (h.block i hi hn)⟩
theorem But.of_below {K : Nat} {a b : World} (h : Below a.heap.size a b) : But K a b := ⟨h.os, h.tape, h.output, h.size, fun i hi _ => h.block i hi⟩
theorem But.alloc (K : Nat) (w : World) (o : Obj) : But K w (w.alloc o) := .of_below ((Below.refl _ w).alloc (Nat.le_refl _) o)
theorem But.set (w : World) (K i : Nat) (v : Value) : But K w (w.setCell ⟨K, i, none⟩ v) := ⟨rfl, rfl, rfl, by simp [World.setCell], fun _ _ hn => Below.heap_setCell _ _ _ _ hn⟩
theorem But.below {K n : Nat} {a b : World} (h : But K a b) (hn : n ≤ K) (hs : n ≤ a.heap.size) : Below n a b := ⟨h.os, h.tape, h.output, h.size, fun i hi => h.block i (by omega) (by omega)⟩
theorem But.blk {K B : Nat} {a b : World} {t : TypeId} {cs : List Value} (h : But K a b) (k : Blk a B t cs) (hn : B ≠ K) : Blk b B t cs := (h.block B k.lt hn).trans k

/-! ### what is known -/
/-- Block K has a number for each element and each part: 0, or 1 or 2 as it is. -/
def Kn (X : World) (K m N : Nat) (f : Nat → Nat → Bool) : Prop :=
  ∃ cs : List Int, Blk X K 3 (cs.map (Value.int .i64)) ∧ cs.length = N * m ∧ ∀ k e, k < m → e < N → cs[e * m + k]? = some 0 ∨ cs[e * m + k]? = some (if f k e then 1 else 2)
theorem Kn.kept {X Y : World} {K m N : Nat} {f : Nat → Nat → Bool} (h : Kn X K m N f) (hk : Y.heap[K]? = X.heap[K]?) : Kn Y K m N f := by
  obtain ⟨cs, h1, h2⟩ := h
  exact ⟨cs, hk.trans h1, h2⟩
theorem Kn.lt {X : World} {K m N : Nat} {f : Nat → Nat → Bool} (h : Kn X K m N f) : K < X.heap.size := by
  obtain ⟨cs, h1, _⟩ := h
  exact h1.lt
theorem at_lt {m N k e : Nat} (hk : k < m) (he : e < N) : e * m + k < N * m := by
  have h1 : (e + 1) * m ≤ N * m := Nat.mul_le_mul_right m he
  rw [Nat.add_mul, Nat.one_mul] at h1
  omega
theorem at_inj {m k e k' e' : Nat} (hk : k < m) (hk' : k' < m) (h : e * m + k = e' * m + k') : k = k' ∧ e = e' := by
  have hm : 0 < m := by omega
  have h1 : (e * m + k) % m = k := by rw [Nat.add_comm, Nat.add_mul_mod_self_right]; exact Nat.mod_eq_of_lt hk
  have h2 : (e' * m + k') % m = k' := by rw [Nat.add_comm, Nat.add_mul_mod_self_right]; exact Nat.mod_eq_of_lt hk'
  have e1 : k = k' := by rw [← h1, ← h2, h]
  subst e1
  have h3 : e * m = e' * m := by omega
  exact ⟨rfl, Nat.eq_of_mul_eq_mul_right hm h3⟩
theorem Kn.get {X : World} {K m N : Nat} {f : Nat → Nat → Bool} (h : Kn X K m N f) {k e : Nat} (hk : k < m) (he : e < N) :
    ∃ z : Int, X.cell? ⟨K, e * m + k, none⟩ = some (.int .i64 z) ∧ X.frozen? ⟨K, e * m + k, none⟩ = false ∧ (z = 0 ∨ z = if f k e then 1 else 2) := by
  obtain ⟨cs, h1, h2, h3⟩ := h
  have hb : X.heap[K]? = some (.cells (cs.map (Value.int .i64)).toArray 3 (0, 0)) := h1
  have hfz : X.frozen? ⟨K, e * m + k, none⟩ = false := by simp [World.frozen?, hb]
  rcases h3 k e hk he with h | h
  · exact ⟨0, by simp [World.cell?, hb, h], hfz, .inl rfl⟩
  · exact ⟨_, by simp [World.cell?, hb, h], hfz, .inr rfl⟩
theorem Kn.put {X : World} {K m N : Nat} {f : Nat → Nat → Bool} (h : Kn X K m N f) {k e : Nat} (hk : k < m) (he : e < N) {z : Int} (hz : z = if f k e then 1 else 2) : Kn (X.setCell ⟨K, e * m + k, none⟩ (.int .i64 z)) K m N f := by
  obtain ⟨cs, h1, h2, h3⟩ := h
  refine ⟨cs.set (e * m + k) z, ?_, by rw [List.length_set]; exact h2, fun k' e' hk' he' => ?_⟩
  · have := Dm.blk_put (show Dm.Blk _ _ _ _ from h1) (e * m + k) (.int .i64 z)
    rw [List.map_set]
    exact this
  · rw [List.getElem?_set]
    by_cases hi : e * m + k = e' * m + k'
    · obtain ⟨rfl, rfl⟩ := at_inj hk hk' hi
      rw [if_pos rfl, if_pos (by rw [h2]; exact at_lt hk he)]
      exact .inr (by rw [hz])
    · rw [if_neg hi]
      exact h3 k' e' hk' he'
theorem Kn.put2 {X : World} {K m N : Nat} {f : Nat → Nat → Bool} (h : Kn X K m N f) {k e : Nat} (hk : k < m) (he : e < N) (u : Int) {z : Int} (hz : z = if f k e then 1 else 2) : Kn ((X.setCell ⟨K, e * m + k, none⟩ (.int .i64 u)).setCell ⟨K, e * m + k, none⟩ (.int .i64 z)) K m N f := by
  obtain ⟨cs, h1, h2, h3⟩ := h
  refine ⟨cs.set (e * m + k) z, ?_, by rw [List.length_set]; exact h2, fun k' e' hk' he' => ?_⟩
  · have h4 := Dm.blk_put (Dm.blk_put (show Dm.Blk _ _ _ _ from h1) (e * m + k) (.int .i64 u)) (e * m + k) (.int .i64 z)
    rw [List.set_set] at h4
    rw [List.map_set]
    exact h4
  · rw [List.getElem?_set]
    by_cases hi : e * m + k = e' * m + k'
    · obtain ⟨rfl, rfl⟩ := at_inj hk hk' hi
      rw [if_pos rfl, if_pos (by rw [h2]; exact at_lt hk he)]
      exact .inr (by rw [hz])
    · rw [if_neg hi]
      exact h3 k' e' hk' he'

/-! ### front, hangs -/
/-- What a row of parts is asked in. -/
structure PtEnv (d : Nat) (T : TE) (s : Sel) (p : Option Addr) (cap : Nat) (w0 : World) : Prop where
  tree : T.At w0
  parts : PartsR d w0.heap.size w0 (.slice p s.length cap) s
  deep : deepS d s = false
  ok : okS d s
abbrev upV (d : Nat) (T : TE) (s : Sel) : Nat → Nat → Bool := Mt.uptoV (Mt.anyV T.es d) T.es s
def knV (K L : Nat) : Value := .slice (some ⟨K, 0, none⟩) L L
/-- What front answers of the first k + 1 parts. -/
def FrontOK (d k : Nat) : Prop := ∀ (T : TE) (s : Sel) (p : Option Addr) (cap e K : Nat) (w0 X : World), PtEnv d T s p cap w0 → e < T.es.length → k < s.length → w0.heap.size ≤ K → Below w0.heap.size w0 X → Kn X K s.length T.es.length (upV d T s) →
  Calls Try.prog 39 #[T.p, .int .i64 e, .agg #[.slice p s.length cap], .int .i64 ((k : Int) + 1), .int .i64 (8 - (d : Int)), .slice (some ⟨K, 0, none⟩) (T.es.length * s.length) (T.es.length * s.length)] X fun r X' => r = .returned (.bool (upV d T s k e)) ∧ But K X X' ∧ Kn X' K s.length T.es.length (upV d T s)
/-- What hangs answers of the parts ahead of part k + 1. -/
def HangsOK (d k : Nat) : Prop := ∀ (T : TE) (s : Sel) (p : Option Addr) (cap e K : Nat) (w0 X : World), PtEnv d T s p cap w0 → e < T.es.length → k + 1 < s.length → w0.heap.size ≤ K → Below w0.heap.size w0 X → Kn X K s.length T.es.length (upV d T s) →
  Calls Try.prog 45 #[T.p, .int .i64 e, .agg #[.slice p s.length cap], .int .i64 ((k : Int) + 2), .int .i64 (8 - (d : Int)), .slice (some ⟨K, 0, none⟩) (T.es.length * s.length) (T.es.length * s.length)] X fun r X' => r = .returned (.bool ((Mt.aheadV T.es (Mt.partAt s (k + 1)).1 e).any (upV d T s k))) ∧ But K X X' ∧ Kn X' K s.length T.es.length (upV d T s)
theorem few_parts {d : Nat} {s : Sel} (h : deepS d s = false) : s.length ≤ 50 ∧ ∀ p ∈ s, deepC d p.2 = false := by
  rw [deepS_eq, Bool.or_eq_false_iff, decide_eq_false_iff_not, List.any_eq_false] at h
  exact ⟨by omega, fun p hp => by simpa using h.2 p hp⟩

/-- What must hang ahead of part k. -/
def hangV (d : Nat) (T : TE) (s : Sel) : Nat → Nat → Bool
  | 0, _ => true
  | k + 1, e => (Mt.aheadV T.es (Mt.partAt s (k + 1)).1 e).any (upV d T s k)
theorem upV_eq (d : Nat) (T : TE) (s : Sel) {k e : Nat} {q : Pt} (hq : s[k]? = some q) : upV d T s k e = (Mt.compV (Mt.anyV T.es d) T.es q.2 e && hangV d T s k e) := by
  unfold upV
  cases k with
  | zero => rw [Mt.uptoV, Mt.partAt_eq hq, hangV, Bool.and_true]
  | succ k' => rw [Mt.uptoV, hangV, Mt.partAt_eq hq]

set_option maxRecDepth 100000 in
set_option maxHeartbeats 4000000 in
theorem front_of (d k : Nat) (HC : CompOK d) (HH : ∀ k', k = k' + 1 → HangsOK d k') : FrontOK d k := by
  intro T s p cap e K w0 X hE he hk hK hX hKn
  obtain ⟨hs50, hdc⟩ := few_parts hE.deep
  have hlen := hE.tree.len
  obtain ⟨V, hV⟩ : ∃ V, upV d T s k e = V := ⟨_, rfl⟩
  rw [hV]
  obtain ⟨q, hq⟩ : ∃ q, s[k]? = some q := ⟨_, List.getElem?_eq_getElem hk⟩
  have hVe : V = (Mt.compV (Mt.anyV T.es d) T.es q.2 e && hangV d T s k e) := by rw [← hV, upV_eq d T s hq]
  obtain ⟨X1, hX1⟩ : ∃ X1, X.alloc (.cells #[.slice p s.length cap] 34) = X1 := ⟨_, rfl⟩
  have b1 : Below X.heap.size X X1 := by rw [← hX1]; exact (Below.refl _ X).alloc (Nat.le_refl _) _
  have k1 : Blk X1 X.heap.size 34 [.slice p s.length cap] := by rw [← hX1]; exact Blk.new X _ _
  have hsX := hX.size
  have hKX := hKn.lt
  have hB1 : Below w0.heap.size w0 X1 := hX.trans (b1.mono hsX)
  have hK1 : Kn X1 K s.length T.es.length (upV d T s) := hKn.kept (b1.block K hKX)
  obtain ⟨z, hz, hzf, hzv⟩ := hK1.get hk he
  have hat := at_lt hk he
  have hml : T.es.length * s.length ≤ 204800 := Nat.mul_le_mul hlen hs50
  have hem : (e : Int) * (s.length : Int) = ((e * s.length : Nat) : Int) := by rw [Int.natCast_mul]
  obtain ⟨A, hA⟩ : ∃ A, e * s.length = A := ⟨_, rfl⟩
  rw [hA] at hem hat hz hzf
  have hw1 : IntKind.i64.wrap ((e : Int) * (s.length : Int)) = (A : Int) := by rw [hem, IntKind.wrap_i64]; omega
  obtain ⟨J, hJ⟩ : ∃ J : Int, (k : Int) + 1 = J := ⟨_, rfl⟩
  have HJ : Hid ((k : Int) + 1 = J) := hJ
  have hw2 : IntKind.i64.wrap ((A : Int) + J) = (A : Int) + J := by rw [IntKind.wrap_i64]; omega
  have hw3 : IntKind.i64.wrap ((A : Int) + J - 1) = ((A + k : Nat) : Int) := by rw [IntKind.wrap_i64]; omega
  have hw4 : IntKind.i64.wrap (J - 1) = (k : Int) := by rw [IntKind.wrap_i64]; omega
  rw [hJ]
  have c0 := (blk1 k1).1
  have HA : Hid (e * s.length = A) := hA
  have HE : Hid (PtEnv d T s p cap w0) := hE
  have HKn : Hid (Kn X1 K s.length T.es.length (upV d T s)) := hK1
  have HV : Hid (V = (Mt.compV (Mt.anyV T.es d) T.es q.2 e && hangV d T s k e)) := hVe
  have HUV : Hid (upV d T s k e = V) := hV
  have HHH : Hid (∀ k', k = k' + 1 → HangsOK d k') := HH
  obtain ⟨I, hI⟩ : ∃ I, A + k = I := ⟨_, rfl⟩
  have HI : Hid (A + k = I) := hI
  rw [hI] at hw3 hat hz hzf
  obtain ⟨L, hL⟩ : ∃ L, T.es.length * s.length = L := ⟨_, rfl⟩
  have HL : Hid (T.es.length * s.length = L) := hL
  rw [hL] at hat hml ⊢
  have hIL : (I : Int) < (L : Int) := by omega
  obtain ⟨D, hD⟩ : ∃ D : Int, 8 - (d : Int) = D := ⟨_, rfl⟩
  have HD : Hid (8 - (d : Int) = D) := hD
  rw [hD]
  have hB01 : But K X X1 := .of_below b1
  rw [hV] at hzv
  clear hV hVe hA hI hL hK1 hKn HH hD hem hdc hE hJ
  by_cases hz0 : z = 0
  · subst hz0
    -- the compound
    obtain ⟨b, off, vi, vk, va, vp, hq0, hbn, hc1, hc2, ⟨y0, y1, y2, y3, y4, y5⟩, r1, r2, r3, r4⟩ := PartsR.get HE.out.parts hq
    subst hq0
    unfold maxLen at hc2
    have hcp := HC T q.2 vi vk va vp e X1 (HE.out.tree.next hB1) he ⟨vi, vk, va, vp, rfl, (r1.below hB1 (fun _ _ h => h)).mono hB1.size (fun _ _ h => h), (r2.below hB1 (fun _ _ h => h)).mono hB1.size (fun _ _ h => h), (r3.below hB1 (fun _ _ h => h)).mono hB1.size (fun _ _ h => h), (r4.below (T' := PsC (SelsR d w0.heap.size X1)) hB1 (fun _ _ ⟨x, e, hx⟩ => ⟨x, e, hx.below d hB1⟩)).mono (T' := PsC (SelsR d X1.heap.size X1)) hB1.size (fun _ _ ⟨x, e, hx⟩ => ⟨x, e, hx.mono d hB1.size⟩)⟩ ((few_parts HE.out.deep).2 q (List.mem_of_getElem? hq)) (okS_c HE.out.ok (List.mem_of_getElem? hq))
    rw [HD.out] at hcp
    have z1 := (hB1.cell (p := ⟨b, off + k * 6 + 1, none⟩) hbn).trans y1
    have z2 := (hB1.cell (p := ⟨b, off + k * 6 + 2, none⟩) hbn).trans y2
    have z3 := (hB1.cell (p := ⟨b, off + k * 6 + 3, none⟩) hbn).trans y3
    have z4 := (hB1.cell (p := ⟨b, off + k * 6 + 4, none⟩) hbn).trans y4
    have z5 := (hB1.cell (p := ⟨b, off + k * 6 + 5, none⟩) hbn).trans y5
    obtain ⟨q1, cp1, rfl⟩ := r1.len
    obtain ⟨q2, cp2, rfl⟩ := r2.len
    obtain ⟨q3, cp3, rfl⟩ := r3.len
    obtain ⟨q4, cp4, rfl⟩ := r4.len
    have hkl : (k : Int) < (s.length : Int) := by omega
    generalize hCV : Mt.compV (Mt.anyV T.es d) T.es q.2 e = CV at hcp HV
    have HB1 : Hid (_ ∧ _ ∧ _) := ⟨hB1, hB01, k1⟩
    clear hzv y0 y1 y2 y3 y4 y5 r1 r2 r3 r4 hq hCV hc1 hB1 hB01 k1 b1
    cases CV with
    | false =>
      obtain rfl : V = false := by rw [HV.out, Bool.false_and]
      clear HV HHH
      go_enter Try.func39, Try.ntmps39
      go_wp2_with fail
      go_at_call 44
      refine Calls.mono hcp ?_
      clear hcp z1 z2 z3 z4 z5 c0 hz hzf hX1
      rintro r X2 ⟨rfl, b2⟩
      have hK2 : Kn X2 K s.length T.es.length (upV d T s) := HKn.out.kept (b2.block K HKn.out.lt)
      obtain ⟨z, hz, hzf, _⟩ := hK2.get hk he
      rw [HA.out, HI.out] at hz hzf
      have hK3 := hK2.put hk he (z := 2) (by rw [HUV.out]; rfl)
      rw [HA.out, HI.out] at hK3
      have FIN : Hid (But K X (X2.setCell ⟨K, I, none⟩ (.int .i64 2)) ∧ Kn (X2.setCell ⟨K, I, none⟩ (.int .i64 2)) K s.length T.es.length (upV d T s)) := ⟨(HB1.out.2.1.trans (.of_below b2)).trans (.set X2 K I _), hK3⟩
      clear hK2 hK3 b2
      go_wp2
      go_ret
      exact ⟨rfl, FIN.out⟩
    | true =>
      have HV2 : Hid (V = hangV d T s k e) := by show _ = _; rw [HV.out, Bool.true_and]
      clear HV
      by_cases hk0 : k = 0
      · obtain rfl : V = true := by rw [HV2.out, hk0]; rfl
        have hJ1 : (J == 1) = true := by
          have := HJ.out
          rw [beq_iff_eq]; omega
        clear HV2 HHH hk0
        go_enter Try.func39, Try.ntmps39
        go_wp2_with fail
        go_at_call 44
        refine Calls.mono hcp ?_
        clear hcp z1 z2 z3 z4 z5 c0 hz hzf hX1
        rintro r X2 ⟨rfl, b2⟩
        have hK2 : Kn X2 K s.length T.es.length (upV d T s) := HKn.out.kept (b2.block K HKn.out.lt)
        obtain ⟨z, hz, hzf, _⟩ := hK2.get hk he
        rw [HA.out, HI.out] at hz hzf
        have hK3 := hK2.put2 hk he 2 (z := 1) (by rw [HUV.out]; rfl)
        rw [HA.out, HI.out] at hK3
        have FIN : Hid (But K X ((X2.setCell ⟨K, I, none⟩ (.int .i64 2)).setCell ⟨K, I, none⟩ (.int .i64 1)) ∧ Kn ((X2.setCell ⟨K, I, none⟩ (.int .i64 2)).setCell ⟨K, I, none⟩ (.int .i64 1)) K s.length T.es.length (upV d T s)) := ⟨((HB1.out.2.1.trans (.of_below b2)).trans (.set X2 K I _)).trans (.set _ K I _), hK3⟩
        clear hK2 hK3 b2
        go_wp2
        go_ret
        exact ⟨rfl, FIN.out⟩
      · obtain ⟨k', hkk⟩ : ∃ k', k = k' + 1 := ⟨k - 1, by omega⟩
        have hJ1 : (J == 1) = false := by
          have := HJ.out
          rw [beq_eq_false_iff_ne]; omega
        have HHG : Hid (∀ X2, Below X1.heap.size X1 X2 → Calls Try.prog 45 #[T.p, .int .i64 e, .agg #[.slice (some ⟨b, off, none⟩) s.length cap], .int .i64 J, .int .i64 D, .slice (some ⟨K, 0, none⟩) L L] X2 fun r X' => r = .returned (.bool V) ∧ But K X2 X' ∧ Kn X' K s.length T.es.length (upV d T s)) := fun X2 b2 => by
          have h := HHH.out k' hkk T s (some ⟨b, off, none⟩) cap e K w0 X2 HE.out he (by omega) hK (HB1.out.1.trans (b2.mono (by have := HB1.out.1.size; omega))) (HKn.out.kept (b2.block K HKn.out.lt))
          rw [HD.out, HL.out, show (k' : Int) + 2 = J by have := HJ.out; omega] at h
          rw [HV2.out, hkk]
          exact h
        clear HV2 HHH hkk hk0
        go_enter Try.func39, Try.ntmps39
        go_wp2_with fail
        go_at_call 44
        refine Calls.mono hcp ?_
        clear hcp z1 z2 z3 z4 z5 c0 hz hzf hX1
        rintro r X2 ⟨rfl, b2⟩
        have hcall := HHG.out X2 b2
        have c0 := (blk1 (HB1.out.2.2.below b2 HB1.out.2.2.lt)).1
        have HB2 : Hid (But K X X2) := HB1.out.2.1.trans (.of_below b2)
        clear b2 HHG
        go_wp2_with fail
        go_at_call 45
        refine Calls.mono hcall ?_
        clear hcall c0
        rintro r X3 ⟨rfl, b3, hK3⟩
        obtain ⟨z, hz, hzf, _⟩ := hK3.get hk he
        rw [HA.out, HI.out] at hz hzf
        cases V with
        | true =>
          have hK4 := hK3.put2 hk he 2 (z := 1) (by rw [HUV.out]; rfl)
          rw [HA.out, HI.out] at hK4
          have FIN : Hid (But K X ((X3.setCell ⟨K, I, none⟩ (.int .i64 2)).setCell ⟨K, I, none⟩ (.int .i64 1)) ∧ Kn ((X3.setCell ⟨K, I, none⟩ (.int .i64 2)).setCell ⟨K, I, none⟩ (.int .i64 1)) K s.length T.es.length (upV d T s)) := ⟨((HB2.out.trans b3).trans (.set X3 K I _)).trans (.set _ K I _), hK4⟩
          clear hK3 hK4 b3
          go_wp2
          go_ret
          exact ⟨rfl, FIN.out⟩
        | false =>
          have hK4 := hK3.put hk he (z := 2) (by rw [HUV.out]; rfl)
          rw [HA.out, HI.out] at hK4
          have FIN : Hid (But K X (X3.setCell ⟨K, I, none⟩ (.int .i64 2)) ∧ Kn (X3.setCell ⟨K, I, none⟩ (.int .i64 2)) K s.length T.es.length (upV d T s)) := ⟨(HB2.out.trans b3).trans (.set X3 K I _), hK4⟩
          clear hK3 hK4 b3
          go_wp2
          go_ret
          exact ⟨rfl, FIN.out⟩
  · have hzb : (z == 0) = false := by simpa using hz0
    have hzV : z = if V then 1 else 2 := hzv.resolve_left hz0
    have FIN : Hid (But K X X1 ∧ Kn X1 K s.length T.es.length (upV d T s)) := ⟨hB01, HKn.out⟩
    clear hzv hz0 HV HHH hB1 hB01 k1 b1 hq
    cases V with
    | true =>
      obtain rfl : z = 1 := hzV
      go_enter Try.func39, Try.ntmps39
      go_wp2
      go_ret
      exact ⟨rfl, FIN.out⟩
    | false =>
      obtain rfl : z = 2 := hzV
      go_enter Try.func39, Try.ntmps39
      go_wp2
      go_ret
      exact ⟨rfl, FIN.out⟩

end Go.Proofs.Ytiaikkbmgnaikaa.Rf
