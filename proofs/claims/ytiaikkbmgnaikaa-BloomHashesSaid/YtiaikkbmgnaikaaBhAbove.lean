/- Package bloom: what a selector asks of ancestors, as an iterator. -/
import Derived.Test.YtiaikkbmgnaikaaBhNode
namespace Go.Proofs.Ytiaikkbmgnaikaa.Bl
open Go Go.RowKit Go.Shelf Wg Sl Go.Proofs.Ytiaikkbmgnaikaa.Tre
attribute [local go_sem] Oper.semAt_some

/-- A compound with its slices. -/
structure Cc where
  cp : Cp
  pi : Option Addr
  ci : Nat
  pc : Option Addr
  cc : Nat
  pa : Option Addr
  ma : Nat
  ca : Nat
  pp : Option Addr
  mp : Nat
  cq : Nat
abbrev Cc.v1 (x : Cc) : Value := .slice x.pi x.cp.ids.length x.ci
abbrev Cc.v2 (x : Cc) : Value := .slice x.pc x.cp.classes.length x.cc
abbrev Cc.v3 (x : Cc) : Value := .slice x.pa x.ma x.ca
abbrev Cc.v4 (x : Cc) : Value := .slice x.pp x.mp x.cq
/-- Its names lie in memory. -/
structure Cc.At (W : World) (x : Cc) : Prop where
  tag : x.cp.tag.size ≤ 281474976710656
  ids : StrsR W x.v1 x.cp.ids
  classes : StrsR W x.v2 x.cp.classes
structure PartAt (W : World) (b off : Nat) (s : Sel) (j : Nat) (x : Cc) : Prop where
  cp : (s[j]?).map Prod.snd = some x.cp
  comb : ∀ q, s[j]? = some q → W.cell? ⟨b, off + j * 6, none⟩ = some (.int .i64 q.1)
  c1 : W.cell? ⟨b, off + j * 6 + 1, none⟩ = some (.string x.cp.tag)
  c2 : W.cell? ⟨b, off + j * 6 + 2, none⟩ = some x.v1
  c3 : W.cell? ⟨b, off + j * 6 + 3, none⟩ = some x.v2
  c4 : W.cell? ⟨b, off + j * 6 + 4, none⟩ = some x.v3
  c5 : W.cell? ⟨b, off + j * 6 + 5, none⟩ = some x.v4
  names : x.At W
def NamesOk (s : Sel) : Prop := ∀ p ∈ s, p.2.tag.size ≤ 281474976710656 ∧ (∀ x ∈ p.2.ids, x.size ≤ 281474976710656) ∧ (∀ x ∈ p.2.classes, x.size ≤ 281474976710656)
theorem form_row {α : Type} {sz : Nat} {T : List Value → α → Prop} {n : Nat} {X : World} {v : Value} {l : List α} (h : RowT sz T n X v l) : ∃ p m c, v = .slice p m c := by
  obtain ⟨p, c, e⟩ := RowT.len h
  exact ⟨p, _, c, e⟩
theorem part_in {d n : Nat} {W : World} {b off m cap : Nat} {s : Sel} (h : PartsR d n W (.slice (some ⟨b, off, none⟩) m cap) s) (hz : NamesOk s) {j : Nat} (hj : j < s.length) : ∃ x : Cc, PartAt W b off s j x := by
  obtain ⟨q, hq⟩ : ∃ q, s[j]? = some q := ⟨_, List.getElem?_eq_getElem hj⟩
  obtain ⟨b', off', i, c, a, ps, e, _, _, _, ⟨e0, e1, e2, e3, e4, e5⟩, r1, r2, r3, r4⟩ := PartsR.get h hq
  cases e
  obtain ⟨pi, ci, rfl⟩ := RowT.len r1
  obtain ⟨pc, cc, rfl⟩ := RowT.len r2
  obtain ⟨pa, ma, ca, rfl⟩ := form_row r3
  obtain ⟨pp, mp, cq, rfl⟩ := form_row r4
  obtain ⟨z1, z2, z3⟩ := hz q (List.mem_of_getElem? hq)
  refine ⟨⟨q.2, pi, ci, pc, cc, pa, ma, ca, pp, mp, cq⟩, ⟨by rw [hq]; rfl, fun q' hq' => ?_, e1, e2, e3, e4, e5, ⟨z1, strs_of_row r1 z2, strs_of_row r2 z3⟩⟩⟩
  rw [hq] at hq'
  cases hq'
  exact e0

/-- What stands above part i, each with its slices. -/
def aboveX (F : Nat → Cc) (s : Sel) : Nat → List Cc
  | 0 => []
  | i + 1 => match s[i + 1]? with
    | some q => if q.1 = 1 ∨ q.1 = 2 then F i :: aboveX F s i else []
    | none => []
theorem aboveX_cp {F : Nat → Cc} {s : Sel} (hF : ∀ j, j < s.length → (s[j]?).map Prod.snd = some (F j).cp) : ∀ i, (aboveX F s i).map Cc.cp = aboveV s i
  | 0 => rfl
  | i + 1 => by
    rw [aboveX, aboveV]
    cases h1 : s[i + 1]? with
    | none => rfl
    | some q =>
      have hlt : i + 1 < s.length := (List.getElem?_eq_some_iff.1 h1).1
      have h2 := hF i (by omega)
      obtain ⟨p, hp⟩ : ∃ p, s[i]? = some p := ⟨_, List.getElem?_eq_getElem (by omega)⟩
      rw [hp] at h2 ⊢
      simp only
      split
      · rw [List.map_cons, aboveX_cp hF i]
        simp at h2
        rw [h2]
      · rfl
theorem aboveX_mem {F : Nat → Cc} {s : Sel} {x : Cc} : ∀ {i : Nat}, i < s.length → x ∈ aboveX F s i → ∃ j, j < s.length ∧ x = F j
  | 0, _, h => by simp [aboveX] at h
  | i + 1, hi, h => by
    rw [aboveX] at h
    cases h1 : s[i + 1]? with
    | none => rw [h1] at h; simp at h
    | some q =>
      rw [h1] at h
      simp only at h
      split at h
      · rcases List.mem_cons.1 h with rfl | h
        · exact ⟨i, by omega, rfl⟩
        · exact aboveX_mem (by omega) h
      · simp at h
theorem egAbove : ∀ args w, (callFunc 41 args).run Try.prog w = .ok (.enter 41 args) w := enters_of Try.func41 (by kernel_rfl) rfl
abbrev ccV (x : Cc) : Array Value := #[.agg #[.string x.cp.tag, .slice x.pi x.cp.ids.length x.ci, .slice x.pc x.cp.classes.length x.cc, .slice x.pa x.ma x.ca, .slice x.pp x.mp x.cq]]

set_option maxRecDepth 100000 in
set_option maxHeartbeats 1000000 in
theorem above_seq (n B b off cap m : Nat) (s : Sel) (hs : s.length = m + 1) (hmx : m + 1 ≤ maxLen) (F : Nat → Cc) (w : World) (hB : w.cell? ⟨B, 0, none⟩ = some (.slice (some ⟨b, off, none⟩) (m + 1) cap)) (hF : ∀ j, j < s.length → PartAt w b off s j (F j)) :
    SeqD Fence.wide n Try.prog 41 #[.pointer (some ⟨B, 0, none⟩)] ccV (fun r => r = B ∨ r = b) (aboveX F s m) w := by
  intro L J Jx D W hR hsz hRD hD hJ hJx hY h0
  unfold maxLen at hmx
  have dB : W.cell? ⟨B, 0, none⟩ = some (.slice (some ⟨b, off, none⟩) (m + 1) cap) := (World.cell?_of_block (a := ⟨B, 0, none⟩) (hR B (.inl rfl))).trans hB
  have hbw : ∀ X E, Fr D E W X → X.heap[b]? = w.heap[b]? := fun X E fr => by
    have h1 := (hF 0 (by omega)).c1
    have h2 : b < w.heap.size := World.block_lt_of_cell? w ⟨b, off + 0 * 6 + 1, none⟩ h1
    exact (fr.block b (by omega) (hRD b (.inr rfl))).trans (hR b (.inr rfl))
  have HBW : Hid (∀ X E, Fr D E W X → X.heap[b]? = w.heap[b]?) := hbw
  have HY : Hid (∀ pre x post D1 W1, aboveX F s m = pre ++ x :: post → J pre D1 W1 → Fr D D1 W W1 → YieldAt Fence.wide (n - 1) Try.prog L (ccV x) W1 fun e W' =>
      (e = .returned (.bool true) ∧ ∃ D', J (pre ++ [x]) D' W' ∧ Fr D1 D' W1 W') ∨ (e = .returned (.bool false) ∧ ∃ D', Jx (pre ++ [x]) D' W' ∧ Fr D1 D' W1 W')) := hY
  have HD : Hid (∀ r, D r → r < W.heap.size) := hD
  have HF : Hid (∀ j, j < s.length → PartAt w b off s j (F j)) := hF
  have HS : Hid (s.length = m + 1) := hs
  have nB : ¬ D B := hRD _ (.inl rfl)
  have hw1 : IntKind.i64.wrap (((m + 1 : Nat) : Int) - 1) = (m : Int) := by rw [IntKind.wrap_i64]; omega
  clear hY hD hRD hR hsz hB hbw hF hs
  refine callsIn_of_wp Try.func41 rfl trivial ?_ rfl
  simp only [Try.ntmps41, List.size_toArray, List.length_cons, List.length_nil, Nat.reduceAdd, Nat.reduceSub, Array.replicate_succ, Array.replicate_zero, List.push_toArray, List.append_toArray, List.nil_append, List.cons_append]
  gi_wp2_with fail
  gi_loopw [3] (fun x wr => ∃ (i : Nat) (E : Nat → Prop) (pre : List Cc), x = .int .i64 i ∧ i ≤ m ∧ aboveX F s m = pre ++ aboveX F s i ∧ J pre E wr ∧ Fr D E W wr) (fun x _ => (intOf x).toNat)
  case atStart => exact ⟨m, D, [], by go_num, Nat.le_refl _, rfl, h0, Fr.refl HD.out⟩
  case round =>
    clear hw1
    obtain ⟨i, E, pre, rfl, hi, hpre, hJi, fri⟩ := hrel
    have HFi : Hid (Fr D E W wr) := fri
    have cB := fri.keep (p := ⟨B, 0, none⟩) nB dB
    cases i with
    | zero =>
      have FIN : Hid (J (aboveX F s m) E wr) := by
        show J _ _ _
        rw [hpre, show aboveX F s 0 = [] from rfl, List.append_nil]; exact hJi
      have hz : decide ((0 : Int) < ((0 : Nat) : Int)) = false := by simp
      clear hpre hJi fri hi
      gi_wp2
      refine ⟨trivial, ?_⟩
      gi_wp2
      go_end0
      exact ⟨⟨_, rfl⟩, E, HFi.out, .inl FIN.out⟩
    | succ j =>
      have hjs : j + 1 < s.length := by have := HS.out; omega
      obtain ⟨q, hq⟩ : ∃ q, s[j + 1]? = some q := ⟨_, List.getElem?_eq_getElem hjs⟩
      have hk := HBW.out wr E fri
      have kc : ∀ {o : Nat} {v : Value}, w.cell? ⟨b, o, none⟩ = some v → wr.cell? ⟨b, o, none⟩ = some v := fun {o v} h => (World.cell?_of_block (a := ⟨b, o, none⟩) hk).trans h
      have e0 := kc ((HF.out (j + 1) hjs).comb q hq)
      have hP := HF.out j (by omega)
      have e1 := kc hP.c1
      have e2 := kc hP.c2
      have e3 := kc hP.c3
      have e4 := kc hP.c4
      have e5 := kc hP.c5
      unfold Cc.v1 at e2
      unfold Cc.v2 at e3
      unfold Cc.v3 at e4
      unfold Cc.v4 at e5
      have hup := callsIn_wide (n := n - 1) |>.2 (upward_any q.1 wr)
      have hst : aboveX F s (j + 1) = if q.1 = 1 ∨ q.1 = 2 then F j :: aboveX F s j else [] := by rw [aboveX, hq]
      have hji : (j : Int) + 1 < (m : Int) + 1 := by omega
      have hji2 : (j : Int) < (m : Int) + 1 := by omega
      have hjm : j + 1 < m + 1 := by omega
      have hjm2 : j < m + 1 := by omega
      by_cases hc : q.1 = 1 ∨ q.1 = 2
      · rw [decide_eq_true hc] at hup
        rw [if_pos hc] at hst
        have hpre2 : aboveX F s m = pre ++ F j :: aboveX F s j := by rw [hpre, hst]
        obtain ⟨fn, tmps, assign, body, hy, hRo⟩ := HY.out pre (F j) (aboveX F s j) E wr hpre2 hJi fri
        have HP2 : Hid (_ = _) := hpre2
        generalize F j = X at *
        obtain ⟨cp, pi, ci, pc, cc, pa, ma, ca, pp, mp, cq⟩ := X
        clear hpre2 hpre hst hc hq hk kc hP hi fri hJi hjs
        gi_wp2_with fail
        refine ⟨trivial, fun h => (by cases h), ?_⟩
        refine hup.mono ?_
        clear hup
        rintro e w2 ⟨rfl, rfl⟩
        gi_wp2_with fail
        refine ⟨fun h => (by cases h), hRo.mono ?_⟩
        clear hRo hy e0 e1 e2 e3 e4 e5 cB
        rintro e w3 (⟨rfl, E', hJ', fr'⟩ | ⟨rfl, E', hJ', fr'⟩)
        · gi_wp2
          go_roundw
          case rel => exact ⟨j, E', pre ++ [_], by go_num, by omega, (by rw [HP2.out]; simp), hJ', HFi.out.trans fr'⟩
          case measure => simp [intOf] <;> omega
        · gi_wp2
          refine bodyPost_ret (results_none rfl _ _ _) rfl ?_
          exact ⟨⟨_, rfl⟩, E', HFi.out.trans fr', .inr ⟨_, _, _, HP2.out, hJ'⟩⟩
      · rw [decide_eq_false hc] at hup
        rw [if_neg hc] at hst
        have FIN : Hid (J (aboveX F s m) E wr) := by
          show J _ _ _
          rw [hpre, hst, List.append_nil]; exact hJi
        clear hpre hst hc hq hk kc hP hi fri hJi hjs e1 e2 e3 e4 e5
        gi_wp2_with fail
        refine ⟨trivial, fun h => (by cases h), ?_⟩
        refine hup.mono ?_
        clear hup
        rintro e w2 ⟨rfl, rfl⟩
        gi_wp2
        go_end0
        exact ⟨⟨_, rfl⟩, E, HFi.out, .inl FIN.out⟩

end Go.Proofs.Ytiaikkbmgnaikaa.Bl
