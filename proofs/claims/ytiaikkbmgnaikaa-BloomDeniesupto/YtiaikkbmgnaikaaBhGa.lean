/- Package bloom: what a selector asks of ancestors, as an iterator. -/
import Derived.Test.YtiaikkbmgnaikaaBhNode
import Derived.Deep.Slices
namespace Go.Proofs.Ytiaikkbmgnaikaa.Bl
open Go Go.RowKit Go.Shelf Wg Sl Go.Proofs.Ytiaikkbmgnaikaa.Tre
attribute [local go_sem] Oper.semAt_some

/-- A compound with its slices. -/
structure Cc where
  cp : Cp
  pi : Option Addr
  ci : Nat
  pc : Option Addr
  cc : Nat
  pa : Option Addr
  ma : Nat
  ca : Nat
  pp : Option Addr
  mp : Nat
  cq : Nat
abbrev Cc.v1 (x : Cc) : Value := .slice x.pi x.cp.ids.length x.ci
abbrev Cc.v2 (x : Cc) : Value := .slice x.pc x.cp.classes.length x.cc
abbrev Cc.v3 (x : Cc) : Value := .slice x.pa x.ma x.ca
abbrev Cc.v4 (x : Cc) : Value := .slice x.pp x.mp x.cq
/-- Its names lie in memory. -/
structure Cc.At (W : World) (x : Cc) : Prop where
  tag : x.cp.tag.size ≤ 281474976710656
  ids : StrsR W x.v1 x.cp.ids
  classes : StrsR W x.v2 x.cp.classes
structure PartAt (W : World) (b off : Nat) (s : Sel) (j : Nat) (x : Cc) : Prop where
  cp : (s[j]?).map Prod.snd = some x.cp
  comb : ∀ q, s[j]? = some q → W.cell? ⟨b, off + j * 6, none⟩ = some (.int .i64 q.1)
  c1 : W.cell? ⟨b, off + j * 6 + 1, none⟩ = some (.string x.cp.tag)
  c2 : W.cell? ⟨b, off + j * 6 + 2, none⟩ = some x.v1
  c3 : W.cell? ⟨b, off + j * 6 + 3, none⟩ = some x.v2
  c4 : W.cell? ⟨b, off + j * 6 + 4, none⟩ = some x.v3
  c5 : W.cell? ⟨b, off + j * 6 + 5, none⟩ = some x.v4
  names : x.At W
def NamesOk (s : Sel) : Prop := ∀ p ∈ s, p.2.tag.size ≤ 281474976710656 ∧ (∀ x ∈ p.2.ids, x.size ≤ 281474976710656) ∧ (∀ x ∈ p.2.classes, x.size ≤ 281474976710656)
theorem form_row {α : Type} {sz : Nat} {T : List Value → α → Prop} {n : Nat} {X : World} {v : Value} {l : List α} (h : RowT sz T n X v l) : ∃ p m c, v = .slice p m c := by
  obtain ⟨p, c, e⟩ := RowT.len h
  exact ⟨p, _, c, e⟩
theorem part_in {d n : Nat} {W : World} {b off m cap : Nat} {s : Sel} (h : PartsR d n W (.slice (some ⟨b, off, none⟩) m cap) s) (hz : NamesOk s) {j : Nat} (hj : j < s.length) : ∃ x : Cc, PartAt W b off s j x := by
  obtain ⟨q, hq⟩ : ∃ q, s[j]? = some q := ⟨_, List.getElem?_eq_getElem hj⟩
  obtain ⟨b', off', i, c, a, ps, e, _, _, _, ⟨e0, e1, e2, e3, e4, e5⟩, r1, r2, r3, r4⟩ := PartsR.get h hq
  cases e
  obtain ⟨pi, ci, rfl⟩ := RowT.len r1
  obtain ⟨pc, cc, rfl⟩ := RowT.len r2
  obtain ⟨pa, ma, ca, rfl⟩ := form_row r3
  obtain ⟨pp, mp, cq, rfl⟩ := form_row r4
  obtain ⟨z1, z2, z3⟩ := hz q (List.mem_of_getElem? hq)
  refine ⟨⟨q.2, pi, ci, pc, cc, pa, ma, ca, pp, mp, cq⟩, ⟨by rw [hq]; rfl, fun q' hq' => ?_, e1, e2, e3, e4, e5, ⟨z1, strs_of_row r1 z2, strs_of_row r2 z3⟩⟩⟩
  rw [hq] at hq'
  cases hq'
  exact e0

/-- What stands above part i, each with its slices. -/
def aboveX (F : Nat → Cc) (s : Sel) : Nat → List Cc
  | 0 => []
  | i + 1 => match s[i + 1]? with
    | some q => if q.1 = 1 ∨ q.1 = 2 then F i :: aboveX F s i else []
    | none => []
theorem aboveX_cp {F : Nat → Cc} {s : Sel} (hF : ∀ j, j < s.length → (s[j]?).map Prod.snd = some (F j).cp) : ∀ i, (aboveX F s i).map Cc.cp = aboveV s i
  | 0 => rfl
  | i + 1 => by
    rw [aboveX, aboveV]
    cases h1 : s[i + 1]? with
    | none => rfl
    | some q =>
      have hlt : i + 1 < s.length := (List.getElem?_eq_some_iff.1 h1).1
      have h2 := hF i (by omega)
      obtain ⟨p, hp⟩ : ∃ p, s[i]? = some p := ⟨_, List.getElem?_eq_getElem (by omega)⟩
      rw [hp] at h2 ⊢
      simp only
      split
      · rw [List.map_cons, aboveX_cp hF i]
        simp at h2
        rw [h2]
      · rfl
theorem aboveX_mem {F : Nat → Cc} {s : Sel} {x : Cc} : ∀ {i : Nat}, i < s.length → x ∈ aboveX F s i → ∃ j, j < s.length ∧ x = F j
  | 0, _, h => by simp [aboveX] at h
  | i + 1, hi, h => by
    rw [aboveX] at h
    cases h1 : s[i + 1]? with
    | none => rw [h1] at h; simp at h
    | some q =>
      rw [h1] at h
      simp only at h
      split at h
      · rcases List.mem_cons.1 h with rfl | h
        · exact ⟨i, by omega, rfl⟩
        · exact aboveX_mem (by omega) h
      · simp at h
theorem egAbove : ∀ args w, (callFunc 41 args).run Try.prog w = .ok (.enter 41 args) w := enters_of Try.func41 (by kernel_rfl) rfl
abbrev ccV (x : Cc) : Array Value := #[.agg #[.string x.cp.tag, .slice x.pi x.cp.ids.length x.ci, .slice x.pc x.cp.classes.length x.cc, .slice x.pa x.ma x.ca, .slice x.pp x.mp x.cq]]

set_option maxRecDepth 100000 in
set_option maxHeartbeats 1000000 in
theorem above_seq (n B b off cap m : Nat) (s : Sel) (hs : s.length = m + 1) (hmx : m + 1 ≤ maxLen) (F : Nat → Cc) (w : World) (hB : w.cell? ⟨B, 0, none⟩ = some (.slice (some ⟨b, off, none⟩) (m + 1) cap)) (hF : ∀ j, j < s.length → PartAt w b off s j (F j)) :
    SeqD Fence.wide n Try.prog 41 #[.pointer (some ⟨B, 0, none⟩)] ccV (fun r => r = B ∨ r = b) (aboveX F s m) w := by
  intro L J Jx D W hR hsz hRD hD hJ hJx hY h0
  unfold maxLen at hmx
  have dB : W.cell? ⟨B, 0, none⟩ = some (.slice (some ⟨b, off, none⟩) (m + 1) cap) := (World.cell?_of_block (a := ⟨B, 0, none⟩) (hR B (.inl rfl))).trans hB
  have hbw : ∀ X E, Fr D E W X → X.heap[b]? = w.heap[b]? := fun X E fr => by
    have h1 := (hF 0 (by omega)).c1
    have h2 : b < w.heap.size := World.block_lt_of_cell? w ⟨b, off + 0 * 6 + 1, none⟩ h1
    exact (fr.block b (by omega) (hRD b (.inr rfl))).trans (hR b (.inr rfl))
  have HBW : Hid (∀ X E, Fr D E W X → X.heap[b]? = w.heap[b]?) := hbw
  have HY : Hid (∀ pre x post D1 W1, aboveX F s m = pre ++ x :: post → J pre D1 W1 → Fr D D1 W W1 → YieldAt Fence.wide (n - 1) Try.prog L (ccV x) W1 fun e W' =>
      (e = .returned (.bool true) ∧ ∃ D', J (pre ++ [x]) D' W' ∧ Fr D1 D' W1 W') ∨ (e = .returned (.bool false) ∧ ∃ D', Jx (pre ++ [x]) D' W' ∧ Fr D1 D' W1 W')) := hY
  have HD : Hid (∀ r, D r → r < W.heap.size) := hD
  have HF : Hid (∀ j, j < s.length → PartAt w b off s j (F j)) := hF
  have HS : Hid (s.length = m + 1) := hs
  have nB : ¬ D B := hRD _ (.inl rfl)
  have hw1 : IntKind.i64.wrap (((m + 1 : Nat) : Int) - 1) = (m : Int) := by rw [IntKind.wrap_i64]; omega
  clear hY hD hRD hR hsz hB hbw hF hs
  refine callsIn_of_wp Try.func41 rfl trivial ?_ rfl
  simp only [Try.ntmps41, List.size_toArray, List.length_cons, List.length_nil, Nat.reduceAdd, Nat.reduceSub, Array.replicate_succ, Array.replicate_zero, List.push_toArray, List.append_toArray, List.nil_append, List.cons_append]
  gi_wp2_with fail
  gi_loopw [3] (fun x wr => ∃ (i : Nat) (E : Nat → Prop) (pre : List Cc), x = .int .i64 i ∧ i ≤ m ∧ aboveX F s m = pre ++ aboveX F s i ∧ J pre E wr ∧ Fr D E W wr) (fun x _ => (intOf x).toNat)
  case atStart => exact ⟨m, D, [], by go_num, Nat.le_refl _, rfl, h0, Fr.refl HD.out⟩
  case round =>
    clear hw1
    obtain ⟨i, E, pre, rfl, hi, hpre, hJi, fri⟩ := hrel
    have HFi : Hid (Fr D E W wr) := fri
    have cB := fri.keep (p := ⟨B, 0, none⟩) nB dB
    cases i with
    | zero =>
      have FIN : Hid (J (aboveX F s m) E wr) := by
        show J _ _ _
        rw [hpre, show aboveX F s 0 = [] from rfl, List.append_nil]; exact hJi
      have hz : decide ((0 : Int) < ((0 : Nat) : Int)) = false := by simp
      clear hpre hJi fri hi
      gi_wp2
      refine ⟨trivial, ?_⟩
      gi_wp2
      go_end0
      exact ⟨⟨_, rfl⟩, E, HFi.out, .inl FIN.out⟩
    | succ j =>
      have hjs : j + 1 < s.length := by have := HS.out; omega
      obtain ⟨q, hq⟩ : ∃ q, s[j + 1]? = some q := ⟨_, List.getElem?_eq_getElem hjs⟩
      have hk := HBW.out wr E fri
      have kc : ∀ {o : Nat} {v : Value}, w.cell? ⟨b, o, none⟩ = some v → wr.cell? ⟨b, o, none⟩ = some v := fun {o v} h => (World.cell?_of_block (a := ⟨b, o, none⟩) hk).trans h
      have e0 := kc ((HF.out (j + 1) hjs).comb q hq)
      have hP := HF.out j (by omega)
      have e1 := kc hP.c1
      have e2 := kc hP.c2
      have e3 := kc hP.c3
      have e4 := kc hP.c4
      have e5 := kc hP.c5
      unfold Cc.v1 at e2
      unfold Cc.v2 at e3
      unfold Cc.v3 at e4
      unfold Cc.v4 at e5
      have hup := callsIn_wide (n := n - 1) |>.2 (upward_any q.1 wr)
      have hst : aboveX F s (j + 1) = if q.1 = 1 ∨ q.1 = 2 then F j :: aboveX F s j else [] := by rw [aboveX, hq]
      have hji : (j : Int) + 1 < (m : Int) + 1 := by omega
      have hji2 : (j : Int) < (m : Int) + 1 := by omega
      have hjm : j + 1 < m + 1 := by omega
      have hjm2 : j < m + 1 := by omega
      by_cases hc : q.1 = 1 ∨ q.1 = 2
      · rw [decide_eq_true hc] at hup
        rw [if_pos hc] at hst
        have hpre2 : aboveX F s m = pre ++ F j :: aboveX F s j := by rw [hpre, hst]
        obtain ⟨fn, tmps, assign, body, hy, hRo⟩ := HY.out pre (F j) (aboveX F s j) E wr hpre2 hJi fri
        have HP2 : Hid (_ = _) := hpre2
        generalize F j = X at *
        obtain ⟨cp, pi, ci, pc, cc, pa, ma, ca, pp, mp, cq⟩ := X
        clear hpre2 hpre hst hc hq hk kc hP hi fri hJi hjs
        gi_wp2_with fail
        refine ⟨trivial, fun h => (by cases h), ?_⟩
        refine hup.mono ?_
        clear hup
        rintro e w2 ⟨rfl, rfl⟩
        gi_wp2_with fail
        refine ⟨fun h => (by cases h), hRo.mono ?_⟩
        clear hRo hy e0 e1 e2 e3 e4 e5 cB
        rintro e w3 (⟨rfl, E', hJ', fr'⟩ | ⟨rfl, E', hJ', fr'⟩)
        · gi_wp2
          go_roundw
          case rel => exact ⟨j, E', pre ++ [_], by go_num, by omega, (by rw [HP2.out]; simp), hJ', HFi.out.trans fr'⟩
          case measure => simp [intOf] <;> omega
        · gi_wp2
          refine bodyPost_ret (results_none rfl _ _ _) rfl ?_
          exact ⟨⟨_, rfl⟩, E', HFi.out.trans fr', .inr ⟨_, _, _, HP2.out, hJ'⟩⟩
      · rw [decide_eq_false hc] at hup
        rw [if_neg hc] at hst
        have FIN : Hid (J (aboveX F s m) E wr) := by
          show J _ _ _
          rw [hpre, hst, List.append_nil]; exact hJi
        clear hpre hst hc hq hk kc hP hi fri hJi hjs e1 e2 e3 e4 e5
        gi_wp2_with fail
        refine ⟨trivial, fun h => (by cases h), ?_⟩
        refine hup.mono ?_
        clear hup
        rintro e w2 ⟨rfl, rfl⟩
        gi_wp2
        go_end0
        exact ⟨⟨_, rfl⟩, E, HFi.out, .inl FIN.out⟩

end Go.Proofs.Ytiaikkbmgnaikaa.Bl

/- Package bloom: Wants at every selector. -/
namespace Go.Proofs.Ytiaikkbmgnaikaa.Bl
open Go Go.RowKit Go.Shelf Wg Sl Go.Proofs.Ytiaikkbmgnaikaa.Tre
attribute [local go_sem] Oper.semAt_some

set_option maxRecDepth 100000 in
theorem above_any (p : Option Addr) (m cap : Nat) (w : World) :
    Calls Try.prog 34 #[.agg #[.slice p m cap]] w fun e w' => e = .returned (.func (.func 41) #[] #[.pointer (some ⟨w.heap.size, 0, none⟩)]) ∧ w' = w.alloc (.cells #[.slice p m cap] 34) := by
  go_enter Try.func34, Try.ntmps34
  go_wp2
  go_ret
  exact ⟨rfl, rfl⟩
theorem egWanted : ∀ args w, (callFunc 33 args).run Try.prog w = .ok (.enter 33 args) w := enters_of Try.func33 (by kernel_rfl) rfl

theorem SeqD.inRound {α : Type} {n : Nat} {P : Program} {g : Nat} {lb : Array Value} {encs : α → Array Value} {R : Nat → Prop} {xs : List α} {w : World} (l : Nat) (h : SeqD Fence.wide n P g lb encs R xs w) : SeqD (Fence.wide.inRound l) n P g lb encs R xs w := h
/-- The parts of a selector that lie in memory: what is wanted of them. -/
structure WantAt (W : World) (b off : Nat) (s : Sel) (F : Nat → Cc) : Prop where
  part : ∀ j, j < s.length → PartAt W b off s j (F j)
/-- The blocks that are read. -/
def WantR (B b : Nat) (s : Sel) (F : Nat → Cc) (r : Nat) : Prop := r = B ∨ r = b ∨ ∃ j, j < s.length ∧ (((F j).v1.ownBlock = some r ∧ (F j).cp.ids ≠ []) ∨ ((F j).v2.ownBlock = some r ∧ (F j).cp.classes ≠ []))

set_option maxRecDepth 100000 in
set_option maxHeartbeats 2000000 in
theorem wanted_seq (n : Nat) (hn : 6 ≤ n) (B b off cap m : Nat) (s : Sel) (hs : s.length = m + 1) (hmx : m + 1 ≤ maxLen) (F : Nat → Cc) (w : World) (hB : w.cell? ⟨B, 0, none⟩ = some (.slice (some ⟨b, off, none⟩) (m + 1) cap)) (hF : ∀ j, j < s.length → PartAt w b off s j (F j)) :
    SeqD Fence.wide n Try.prog 33 #[.pointer (some ⟨B, 0, none⟩)] (fun x : Nat => #[.int .i64 x]) (WantR B b s F) ((aboveX F s m).flatMap (fun x => cpNames x.cp)) w := by
  intro L J Jx D W hR hsz hRD hD hJ hJx hY h0
  have dB : W.cell? ⟨B, 0, none⟩ = some (.slice (some ⟨b, off, none⟩) (m + 1) cap) := (World.cell?_of_block (a := ⟨B, 0, none⟩) (hR B (.inl rfl))).trans hB
  have hBlt : B < w.heap.size := World.block_lt_of_cell? w ⟨B, 0, none⟩ hB
  have hblt : b < w.heap.size := World.block_lt_of_cell? w ⟨b, off + 0 * 6 + 1, none⟩ (hF 0 (by omega)).c1
  have HY : Hid (∀ pre x post D1 W1, (aboveX F s m).flatMap (fun x => cpNames x.cp) = pre ++ x :: post → J pre D1 W1 → Fr D D1 W W1 → YieldAt Fence.wide (n - 1) Try.prog L #[.int .i64 (x : Nat)] W1 fun e W' =>
      (e = .returned (.bool true) ∧ ∃ D', J (pre ++ [x]) D' W' ∧ Fr D1 D' W1 W') ∨ (e = .returned (.bool false) ∧ ∃ D', Jx (pre ++ [x]) D' W' ∧ Fr D1 D' W1 W')) := hY
  have HD : Hid (∀ r, D r → r < W.heap.size) := hD
  -- the names of each compound, in every later world
  have HN : Hid (∀ x ∈ aboveX F s m, ∀ X E, Fr D E W X → x.At X ∧ (∀ r, ((x.v1.ownBlock = some r ∧ x.cp.ids ≠ []) ∨ (x.v2.ownBlock = some r ∧ x.cp.classes ≠ [])) → r < W.heap.size ∧ ¬ D r)) := fun x hx X E fr => by
    obtain ⟨j, hj, rfl⟩ := aboveX_mem (by omega) hx
    obtain ⟨t1, t2, t3⟩ := (hF j hj).names
    have keep : ∀ r, r < w.heap.size → WantR B b s F r → X.heap[r]? = w.heap[r]? := fun r h1 h2 => (fr.block r (by omega) (hRD r h2)).trans (hR r h2)
    exact ⟨⟨t1, t2.kept (fun r h1 h2 => keep r (t2.lt h2 h1) (.inr (.inr ⟨j, hj, .inl ⟨h1, h2⟩⟩))), t3.kept (fun r h1 h2 => keep r (t3.lt h2 h1) (.inr (.inr ⟨j, hj, .inr ⟨h1, h2⟩⟩)))⟩,
      fun r hr => ⟨by
        have : r < w.heap.size := hr.elim (fun h => t2.lt h.2 h.1) (fun h => t3.lt h.2 h.1)
        omega, hRD r (.inr (.inr ⟨j, hj, hr⟩))⟩⟩
  have HF : Hid (∀ X E, Fr D E W X → ∀ j, j < s.length → PartAt X b off s j (F j)) := fun X E fr j hj => by
    have h1 := hF j hj
    have hk : X.heap[b]? = w.heap[b]? := (fr.block b (by omega) (hRD b (.inr (.inl rfl)))).trans (hR b (.inr (.inl rfl)))
    have kc : ∀ {o : Nat} {v : Value}, w.cell? ⟨b, o, none⟩ = some v → X.cell? ⟨b, o, none⟩ = some v := fun {o v} h => (World.cell?_of_block (a := ⟨b, o, none⟩) hk).trans h
    obtain ⟨t1, t2, t3⟩ := h1.names
    have keep : ∀ r, r < w.heap.size → WantR B b s F r → X.heap[r]? = w.heap[r]? := fun r h1 h2 => (fr.block r (by omega) (hRD r h2)).trans (hR r h2)
    exact ⟨h1.cp, fun q hq => kc (h1.comb q hq), kc h1.c1, kc h1.c2, kc h1.c3, kc h1.c4, kc h1.c5, ⟨t1, t2.kept (fun r h1 h2 => keep r (t2.lt h2 h1) (.inr (.inr ⟨j, hj, .inl ⟨h1, h2⟩⟩))), t3.kept (fun r h1 h2 => keep r (t3.lt h2 h1) (.inr (.inr ⟨j, hj, .inr ⟨h1, h2⟩⟩)))⟩⟩
  have nB : ¬ D B := hRD _ (.inl rfl)
  have nb : ¬ D b := hRD _ (.inr (.inl rfl))
  have lB : B < W.heap.size ∧ b < W.heap.size := ⟨by omega, by omega⟩
  have HS : Hid (_ ∧ _) := ⟨hs, hmx⟩
  clear hY hD hRD hR hsz hB hF hBlt hblt hs hmx
  refine callsIn_of_wp_marks Try.func33 rfl trivial ?_ rfl
  simp only [Try.ntmps33, List.size_toArray, List.length_cons, List.length_nil, Nat.reduceAdd, Nat.reduceSub, Array.replicate_succ, Array.replicate_zero, List.push_toArray, List.append_toArray, List.nil_append, List.cons_append]
  obtain ⟨W1, hW1⟩ : ∃ W1, W.alloc (.cells #[.func (.yield L) #[] #[]] 50) = W1 := ⟨_, rfl⟩
  have bY : W1.cell? ⟨W.heap.size, 0, none⟩ = some (.func (.yield L) #[] #[]) := by rw [← hW1]; exact (Boxed.new W _ _).cell
  have F1 : Fr D D W W1 := by rw [← hW1]; exact (Fr.refl HD.out).alloc _
  have dB1 := F1.keep (p := ⟨B, 0, none⟩) nB dB
  have h1 : J [] D W1 := hJ _ _ _ _ h0 (by rw [← hW1]; exact (Kd.refl _ _).alloc _ HD.out)
  have s1 : W1.heap.size = W.heap.size + 1 := by rw [← hW1]; simp
  have hab := callsIn_wide (n := n - 1) |>.2 (above_any (some ⟨b, off, none⟩) (m + 1) cap W1)
  have H1 : Hid (_ ∧ _ ∧ _ ∧ _) := ⟨F1, s1, h1, bY⟩
  clear F1 s1 h1 bY h0 dB
  gi_wp2_with fail
  refine ⟨trivial, fun h => (by cases h), ?_⟩
  refine hab.mono ?_
  clear hab hW1 dB1
  rintro e W2 ⟨rfl, hW2⟩
  obtain ⟨F1, s1, h1, bY⟩ := H1.out
  have b2 : Below W1.heap.size W1 W2 := by rw [hW2]; exact (Below.refl _ W1).alloc (Nat.le_refl _) _
  have s2 : W2.heap.size = W.heap.size + 2 := by rw [hW2]; simp; omega
  have cA : W2.cell? ⟨W1.heap.size, 0, none⟩ = some (.slice (some ⟨b, off, none⟩) (m + 1) cap) := by rw [hW2]; exact (Boxed.new W1 _ _).cell
  have F2 : Fr D D W W2 := F1.next b2
  have h2 : J [] D W2 := hJ _ _ _ _ h1 (Kd.below b2 F1.lt)
  have cY : W2.cell? ⟨W.heap.size, 0, none⟩ = some (.func (.yield L) #[] #[]) := (b2.cell (p := ⟨W.heap.size, 0, none⟩) (by simp; omega)).trans bY
  have HQ : Hid (_ ∧ _ ∧ _ ∧ _ ∧ _) := ⟨F2, s2, h2, cY, cA⟩
  clear F1 s1 h1 bY b2 F2 s2 h2 cY cA hW2
  gi_wp2_with fail
  obtain ⟨F2, s2, h2, cY, cA⟩ := HQ.out
  obtain ⟨hs, hmx⟩ := HS.out
  have HDW : Hid (∀ r, D r → r < W.heap.size) := HD
  have eW1 : W1.heap.size = W.heap.size + 1 := (H1.out).2.1
  clear H1 HQ
  generalize W1.heap.size = A1 at *
  have HA1 : Hid (A1 = W.heap.size + 1) := eW1
  clear eW1
  refine wpIn_rangeFunc_D rfl (by omega) (gf := 41) (lb := #[.pointer (some ⟨A1, 0, none⟩)]) rfl trivial egAbove (above_seq (n - 1) A1 b off cap m s hs hmx F W2 cA (HF.out W2 D F2)) (fun _ => rfl)
    (fun pre E X => J (pre.flatMap (fun x => cpNames x.cp)) E X) (fun c _ E X => c = .ret ∧ ∃ pre x post, (aboveX F s m).flatMap (fun x => cpNames x.cp) = pre ++ x :: post ∧ Jx (pre ++ [x]) E X)
    (fun t E X Y hi hk => hJ _ _ _ _ hi hk) (fun c t E X Y hi hk => ⟨hi.1, by obtain ⟨p1, x1, q1, e1, j1⟩ := hi.2; exact ⟨p1, x1, q1, e1, hJx _ _ _ _ j1 hk⟩⟩) D (fun r e => by have := HD.out r e; omega)
    (fun r hr e => by
      have := HD.out r e
      have h9 : A1 = W.heap.size + 1 := HA1.out
      rcases hr with h8 | h8
      · omega
      · exact nb (h8 ▸ e))
    (fun r hr => ⟨by
      have h9 : A1 = W.heap.size + 1 := HA1.out
      rcases hr with h8 | h8 <;> omega, rfl⟩) (Nat.le_refl _) h2
    (fun pre x E2 a' X => ∃ B2 E1, (∀ r, E2 r ↔ E1 r ∨ r = B2) ∧ ¬ E1 B2 ∧ J (pre.flatMap (fun x => cpNames x.cp)) E1 X ∧ Blk X B2 60 [.string x.cp.tag, .slice x.pi x.cp.ids.length x.ci, .slice x.pc x.cp.classes.length x.cc, .slice x.pa x.ma x.ca, .slice x.pp x.mp x.cq] ∧
      a' = { tmps := #[.func (.yield L) #[] #[], .pointer (some ⟨B, 0, none⟩), .pointer (some ⟨W.heap.size, 0, none⟩), .pointer (some ⟨B2, 0, none⟩), undef, .agg #[.slice (some ⟨b, off, none⟩) (m + 1) cap], .func (.func 41) #[] #[.pointer (some ⟨A1, 0, none⟩)], .agg #[.string x.cp.tag, .slice x.pi x.cp.ids.length x.ci, .slice x.pc x.cp.classes.length x.cc, .slice x.pa x.ma x.ca, .slice x.pp x.mp x.cq], undef, undef, undef, undef, undef, undef, undef, undef, undef, undef, undef, undef], defers := [] })
    ?hAx ?assign ?body ?done ?stop
  case hAx =>
    rintro t x a' _ E2 X Y ⟨B2, E1, e1, e2, e3, e4, e5⟩ hk
    exact ⟨B2, E1, e1, e2, hJ _ _ _ _ e3 ⟨hk.os, hk.tape, hk.output, hk.size, fun r hr => hk.same r ((e1 r).2 (.inl hr))⟩, (hk.same B2 ((e1 B2).2 (.inr rfl))).trans e4, e5⟩
  case assign =>
    intro l' pre x D1 Wx K hi hfr hK
    have HK : Hid (∀ a' D2 W', Fr D1 D2 Wx W' → _ → K a' W') := hK
    have hlt := hfr.lt
    clear hK
    gi_wp2
    refine HK.out _ (fun r => D1 r ∨ r = Wx.heap.size) _ ?_ ⟨Wx.heap.size, D1, fun _ => Iff.rfl, fun e => by have := hlt _ e; omega, hJ _ _ _ _ hi ((Kd.refl _ _).alloc _ hlt), Blk.new Wx _ _, rfl⟩
    exact ((Fr.refl hlt).alloc _).names (fun _ h => h) (fun r hr => by
      rcases hr with hr | rfl
      · exact ⟨.inl hr, by simp; have := hlt r hr; omega⟩
      · exact ⟨.inr (.inr (Nat.le_refl _)), by simp⟩)
  case body =>
    rintro l' pre x post D2 a' X heq ⟨B2, E1, hE, hnB, hJ1, hb, rfl⟩ hfr ⟨r0, hl0⟩ hnl hlw
    have hX : Fr D D2 W X := F2.trans hfr
    have hE1 : Fr D E1 W X := hX.names (fun _ h => h) (fun r hr => ⟨.inl ((hE r).2 (.inl hr)), hX.lt r ((hE r).2 (.inl hr))⟩)
    obtain ⟨hAt, hOwn⟩ := HN.out x (by rw [heq]; simp) X E1 hE1
    have hh := hashes_of x.cp.tag x.v1 x.v2 x.cp.ids x.cp.classes X hAt.tag hAt.ids hAt.classes
    obtain ⟨⟨c0, c1, c2, _, _⟩, _⟩ := blk5 hb
    have HX : Hid (_ ∧ _ ∧ _) := ⟨hE1, hOwn, hb.lt⟩
    have HE : Hid (∀ r, D2 r ↔ E1 r ∨ r = B2) := hE
    have HFR : Hid (Fr D D2 W2 X) := hfr
    have hlX : l' < X.heap.size := (Array.getElem?_eq_some_iff.1 hl0).1
    have HP : Hid (∀ pre2 y post2, cpNames x.cp = pre2 ++ y :: post2 → (aboveX F s m).flatMap (fun x => cpNames x.cp) = (pre.flatMap (fun x => cpNames x.cp) ++ pre2) ++ y :: (post2 ++ post.flatMap (fun x => cpNames x.cp))) := fun pre2 y post2 e => by rw [heq]; simp [e]
    obtain ⟨pf, hpf⟩ : ∃ pf, pf = pre.flatMap (fun x => cpNames x.cp) := ⟨_, rfl⟩
    rw [← hpf] at hJ1 HP
    have HPF : Hid ((pre ++ [x]).flatMap (fun x => cpNames x.cp) = pf ++ cpNames x.cp) := by show _ = _; rw [hpf]; simp
    clear heq hAt hOwn hX hE1 hE hfr hb hpf
    gi_wp2_with fail
    refine ⟨trivial, fun h => (by cases h), ?_⟩
    refine (CallsIn.inRound l' (callsIn_wide.2 hh)).mono ?_
    clear hh
    rintro e X3 ⟨lb, R, rfl, bb, hR, hseq⟩
    have hl3 : X3.heap[l']? = some (.loop r0) := (bb.block l' hlX).trans hl0
    have hJ3 : J pf E1 X3 := hJ _ _ _ _ hJ1 (Kd.below bb HX.out.1.lt)
    have fr3 : Fr D E1 W X3 := HX.out.1.next bb
    have HB3 : Hid (_ ∧ _ ∧ _) := ⟨bb, hR, fr3⟩
    have HSQ : Hid (∀ n, SeqD Fence.wide n Try.prog 43 lb (fun x : Nat => #[.int .i64 x]) R (namesV x.cp.tag x.cp.ids x.cp.classes) X3) := hseq
    clear bb hR hseq fr3 hJ1 hl0 c0 c1 c2
    gi_wp2_with fail
    refine wpIn_rangeFunc_Dn (l₀ := l') (r₀ := r0) rfl hl3 (by omega) (gf := 43) (lb := lb) rfl trivial egHashes (SeqD.inRound l' (HSQ.out _)) (fun _ => rfl)
      (fun pre2 E X => J (pf ++ pre2) E X) (fun c _ E X => c = .ret ∧ ∃ pre x post, (aboveX F s m).flatMap (fun x => cpNames x.cp) = pre ++ x :: post ∧ Jx (pre ++ [x]) E X)
      (fun t E X Y hi hk => hJ _ _ _ _ hi hk) (fun c t E X Y hi hk => ⟨hi.1, by obtain ⟨p1, x1, q1, e1, j1⟩ := hi.2; exact ⟨p1, x1, q1, e1, hJx _ _ _ _ j1 hk⟩⟩) E1 HB3.out.2.2.lt
      (fun r hr e => by
        rcases (HB3.out.2.1 r hr).2 with h5 | h5
        · have := HX.out.1.lt r e; omega
        · have h6 := HX.out.2.1 r h5
          exact (HX.out.1.grow r e).elim h6.2 (fun e => by have := h6.1; omega))
      (fun r hr => ⟨(HB3.out.2.1 r hr).1, rfl⟩) (Nat.le_refl _) (by rw [List.append_nil]; exact hJ3)
      (fun pre2 y E a' X => J (pf ++ pre2) E X ∧ a' = { tmps := #[.func (.yield L) #[] #[], .pointer (some ⟨B, 0, none⟩), .pointer (some ⟨W.heap.size, 0, none⟩), .pointer (some ⟨B2, 0, none⟩), .int .i64 (y : Nat), .agg #[.slice (some ⟨b, off, none⟩) (m + 1) cap], .func (.func 41) #[] #[.pointer (some ⟨A1, 0, none⟩)], .agg #[.string x.cp.tag, .slice x.pi x.cp.ids.length x.ci, .slice x.pc x.cp.classes.length x.cc, .slice x.pa x.ma x.ca, .slice x.pp x.mp x.cq], .pointer (some ⟨B2, 0, none⟩), .string x.cp.tag, .pointer (some ⟨B2, 1, none⟩), .slice x.pi x.cp.ids.length x.ci, .pointer (some ⟨B2, 2, none⟩), .slice x.pc x.cp.classes.length x.cc, .func (.func 43) #[] lb, .int .i64 (y : Nat), undef, undef, undef, undef], defers := [] })
      (fun t y a' _ E X Y hi hk => ⟨hJ _ _ _ _ hi.1 hk, hi.2⟩) ?assign2 ?body2 ?done2 ?stop2
    case assign2 =>
      intro l'' pre2 y D1 Wx K hi hfr hK
      gi_wp2
      exact hK _ D1 _ (Fr.refl hfr.lt) ⟨hi, rfl⟩
    case body2 =>
      rintro l'' pre2 y post2 D3 a' Wx heq ⟨hi, rfl⟩ hfr _ hnl hlw
      have hyb : Wx.cell? ⟨W.heap.size, 0, none⟩ = some (.func (.yield L) #[] #[]) := by
        have h5 := HFR.out.keep (p := ⟨W.heap.size, 0, none⟩) (fun e => by have := HD.out _ e; simp at this) cY
        have h6 := (HB3.out.1.cell (p := ⟨W.heap.size, 0, none⟩) (World.block_lt_of_cell? X ⟨W.heap.size, 0, none⟩ h5)).trans h5
        exact hfr.keep (p := ⟨W.heap.size, 0, none⟩) (fun e => (HFR.out.grow _ ((HE.out _).2 (.inl e))).elim (fun e => by have := HD.out _ e; simp at this) (fun e => by simp at e; omega)) h6
      obtain ⟨fn, tmps, assign, body, hy, hRo⟩ := HY.out (pf ++ pre2) y (post2 ++ post.flatMap (fun x => cpNames x.cp)) D3 Wx (HP.out pre2 y post2 heq) hi (HB3.out.2.2.trans hfr)
      have HP2 : Hid (_ = _) := HP.out pre2 y post2 heq
      clear heq
      gi_wp2_with fail
      refine ⟨fun h => (by cases h), (roundAny hRo).mono ?_⟩
      clear hRo hy
      rintro e w3 (⟨rfl, D', hJ', fr⟩ | ⟨rfl, D', hJ', fr⟩)
      · gi_wp2
        exact ⟨D', (by show J (pf ++ (pre2 ++ [y])) D' w3; rw [← List.append_assoc]; exact hJ'), fr⟩
      · gi_wp2
        exact ⟨D', ⟨rfl, _, _, _, HP2.out, hJ'⟩, fr⟩
    case done2 =>
      intro E X4 hi hfr
      gi_wp2
      refine ⟨E, (by show J _ _ _; rw [HPF.out]; exact hi), ?_⟩
      exact ((Fr.of_below (D := E1) HB3.out.1 HX.out.1.lt).trans hfr).names (fun r hr => (HE.out r).2 (.inl hr)) (fun r hr => ⟨.inl hr, hfr.lt r hr⟩)
    case stop2 =>
      rintro c pre2 y post2 E X4 heq ⟨rfl, hx⟩ hfr
      gi_wp2
      exact ⟨E, ⟨rfl, hx⟩, ((Fr.of_below (D := E1) HB3.out.1 HX.out.1.lt).trans hfr).names (fun r hr => (HE.out r).2 (.inl hr)) (fun r hr => ⟨.inl hr, hfr.lt r hr⟩)⟩
  case done =>
    intro E X hi hfr hK hnE
    gi_wp2
    refine ⟨by simp, .inl ⟨_, _, rfl, run_takeDeferred hK, ?_⟩⟩
    exact ⟨_, results_none rfl _ _ _, ⟨_, rfl⟩, E, (F2.trans hfr).put _ (.inr (by omega)), .inl (hJ _ _ _ _ hi ((Kd.refl _ _).put _ hnE))⟩
  case stop =>
    rintro c pre x post E X heq ⟨rfl, p1, x1, q1, e1, j1⟩ hfr hK hnE
    gi_wp2
    refine ⟨by simp, .inl ⟨_, _, rfl, run_takeDeferred hK, ?_⟩⟩
    exact ⟨_, results_none rfl _ _ _, ⟨_, rfl⟩, E, (F2.trans hfr).put _ (.inr (by omega)), .inr ⟨p1, x1, q1, e1, hJx _ _ _ _ j1 ((Kd.refl _ _).put _ hnE)⟩⟩

end Go.Proofs.Ytiaikkbmgnaikaa.Bl

/- The document's SameInts at two slices of the same numbers; bloom.Wants at every selector that is not empty. -/
namespace Go.Proofs.Ytiaikkbmgnaikaa.Bl
open Go Go.RowKit Go.Shelf Wg Sl Go.Proofs.Ytiaikkbmgnaikaa.Tre

theorem drew_add (w : World) (d n : Nat) : (w.drewN d).drewN n = w.drewN (d + n) := by simp [World.drewN, Nat.add_assoc]
set_option maxRecDepth 100000 in
set_option maxHeartbeats 400000 in
theorem sameI_yes (v v' : Value) (l : List Int) (w : World) (h : IntsR w v l) (h' : IntsR w v' l) :
    Calls Try.prog 7 #[v, v'] w fun e w' => e = .returned (.bool true) ∧ Below w.heap.size w w' := by
  obtain ⟨p, c, rfl⟩ := h.len
  obtain ⟨p', c', rfl⟩ := h'.len
  have hmx := h.short
  unfold maxLen at hmx
  have H : Hid (_ ∧ _) := ⟨h, h'⟩
  clear h h'
  go_enter Try.func7, Try.ntmps7
  go_wp2_with fail
  go_loopw [5] (fun x wr => ∃ k d : Nat, x = .int .i64 k ∧ k ≤ l.length ∧ wr = w.drewN d) (fun x _ => l.length - (intOf x).toNat)
  case atStart => exact ⟨0, 0, rfl, Nat.zero_le _, rfl⟩
  case round =>
    obtain ⟨k, d, rfl, hk, hw⟩ := hrel
    have HW : Hid (wr = w.drewN d) := hw
    by_cases hkl : k < l.length
    · have hlt : decide (k < l.length) = true := by simpa using hkl
      obtain ⟨x, hx⟩ : ∃ x, l[k]? = some x := ⟨_, List.getElem?_eq_getElem hkl⟩
      obtain ⟨b, off, rfl, _, _, hc⟩ := H.out.1.get hx
      obtain ⟨b', off', rfl, _, _, hc'⟩ := H.out.2.get hx
      have e1 : wr.cell? ⟨b, off + k, none⟩ = some (.int .i64 x) := by rw [hw]; exact hc
      have e2 : wr.cell? ⟨b', off' + k, none⟩ = some (.int .i64 x) := by rw [hw]; exact hc'
      have hki : (k : Int) < (l.length : Int) := by omega
      have hne : (x != x) = false := by simp
      clear hw hc hc' hx hk
      go_wp2_with fail
      go_quiet (fail)
      go_wp2
      go_roundw
      case rel => exact ⟨k + 1, _, by go_num, by omega, (by rw [HW.out]; exact drew_add w d _)⟩
      case measure => simp [intOf] <;> omega
    · have hlt : decide (k < l.length) = false := by simpa using hkl
      clear hw
      go_wp2
      go_ret
      exact ⟨rfl, by rw [HW.out]; exact Sl.below_drewN w d⟩

set_option maxRecDepth 100000 in
theorem wanted_any (p : Option Addr) (m cap : Nat) (w : World) :
    Calls Try.prog 23 #[.agg #[.slice p m cap]] w fun e w' => e = .returned (.func (.func 33) #[] #[.pointer (some ⟨w.heap.size, 0, none⟩)]) ∧ w' = w.alloc (.cells #[.slice p m cap] 34) := by
  go_enter Try.func23, Try.ntmps23
  go_wp2
  go_ret
  exact ⟨rfl, rfl⟩

end Go.Proofs.Ytiaikkbmgnaikaa.Bl

/- Package bloom: Wants at every selector. -/
namespace Go.Proofs.Ytiaikkbmgnaikaa.Bl
open Go Go.RowKit Go.Shelf Wg Sl Go.Proofs.Ytiaikkbmgnaikaa.Tre
attribute [local go_sem] Oper.semAt_some

set_option maxRecDepth 100000 in
set_option maxHeartbeats 1000000 in
theorem above_seq0 (n B cap : Nat) (p : Option Addr) (w : World) (hB : w.cell? ⟨B, 0, none⟩ = some (.slice p 0 cap)) :
    SeqD Fence.wide n Try.prog 41 #[.pointer (some ⟨B, 0, none⟩)] ccV (fun r => r = B) ([] : List Cc) w := by
  intro L J Jx D W hR hsz hRD hD hJ hJx hY h0
  have dB : W.cell? ⟨B, 0, none⟩ = some (.slice p 0 cap) := (World.cell?_of_block (a := ⟨B, 0, none⟩) (hR B rfl)).trans hB
  have HD : Hid (∀ r, D r → r < W.heap.size) := hD
  have H0 : Hid (J [] D W) := h0
  clear hY hD hRD hR hsz hB h0
  refine callsIn_of_wp Try.func41 rfl trivial ?_ rfl
  simp only [Try.ntmps41, List.size_toArray, List.length_cons, List.length_nil, Nat.reduceAdd, Nat.reduceSub, Array.replicate_succ, Array.replicate_zero, List.push_toArray, List.append_toArray, List.nil_append, List.cons_append]
  gi_wp2_with fail
  gi_loopw [3] (fun x wr => x = .int .i64 (-1) ∧ wr = W) (fun _ _ => 0)
  case atStart => exact ⟨by go_num, rfl⟩
  case round =>
    obtain ⟨rfl, rfl⟩ := hrel
    gi_wp2
    refine ⟨trivial, ?_⟩
    gi_wp2
    go_end0
    exact ⟨⟨_, rfl⟩, D, Fr.refl HD.out, .inl H0.out⟩

set_option maxRecDepth 100000 in
set_option maxHeartbeats 2000000 in
theorem wanted_seq0 (n : Nat) (hn : 6 ≤ n) (B cap : Nat) (p : Option Addr) (w : World) (hB : w.cell? ⟨B, 0, none⟩ = some (.slice p 0 cap)) :
    SeqD Fence.wide n Try.prog 33 #[.pointer (some ⟨B, 0, none⟩)] (fun x : Nat => #[.int .i64 x]) (fun r => r = B) ([] : List Nat) w := by
  intro L J Jx D W hR hsz hRD hD hJ hJx hY h0
  have dB : W.cell? ⟨B, 0, none⟩ = some (.slice p 0 cap) := (World.cell?_of_block (a := ⟨B, 0, none⟩) (hR B rfl)).trans hB
  have HD : Hid (∀ r, D r → r < W.heap.size) := hD
  have nB : ¬ D B := hRD _ rfl
  clear hY hD hRD hR hsz hB
  refine callsIn_of_wp_marks Try.func33 rfl trivial ?_ rfl
  simp only [Try.ntmps33, List.size_toArray, List.length_cons, List.length_nil, Nat.reduceAdd, Nat.reduceSub, Array.replicate_succ, Array.replicate_zero, List.push_toArray, List.append_toArray, List.nil_append, List.cons_append]
  obtain ⟨W1, hW1⟩ : ∃ W1, W.alloc (.cells #[.func (.yield L) #[] #[]] 50) = W1 := ⟨_, rfl⟩
  have F1 : Fr D D W W1 := by rw [← hW1]; exact (Fr.refl HD.out).alloc _
  have dB1 := F1.keep (p := ⟨B, 0, none⟩) nB dB
  have h1 : J [] D W1 := hJ _ _ _ _ h0 (by rw [← hW1]; exact (Kd.refl _ _).alloc _ HD.out)
  have s1 : W1.heap.size = W.heap.size + 1 := by rw [← hW1]; simp
  have hab := callsIn_wide (n := n - 1) |>.2 (above_any p 0 cap W1)
  have H1 : Hid (_ ∧ _ ∧ _) := ⟨F1, s1, h1⟩
  clear F1 s1 h1 h0 dB
  gi_wp2_with fail
  refine ⟨trivial, fun h => (by cases h), ?_⟩
  refine hab.mono ?_
  clear hab hW1 dB1
  rintro e W2 ⟨rfl, hW2⟩
  obtain ⟨F1, s1, h1⟩ := H1.out
  have b2 : Below W1.heap.size W1 W2 := by rw [hW2]; exact (Below.refl _ W1).alloc (Nat.le_refl _) _
  have s2 : W2.heap.size = W.heap.size + 2 := by rw [hW2]; simp; omega
  have cA : W2.cell? ⟨W1.heap.size, 0, none⟩ = some (.slice p 0 cap) := by rw [hW2]; exact (Boxed.new W1 _ _).cell
  have F2 : Fr D D W W2 := F1.next b2
  have h2 : J [] D W2 := hJ _ _ _ _ h1 (Kd.below b2 F1.lt)
  have HQ : Hid (_ ∧ _ ∧ _ ∧ _) := ⟨F2, s2, h2, cA⟩
  clear F1 s1 h1 b2 F2 s2 h2 cA hW2
  gi_wp2_with fail
  obtain ⟨F2, s2, h2, cA⟩ := HQ.out
  have eW1 : W1.heap.size = W.heap.size + 1 := (H1.out).2.1
  clear H1 HQ
  generalize W1.heap.size = A1 at *
  have HA1 : Hid (A1 = W.heap.size + 1) := eW1
  clear eW1
  refine wpIn_rangeFunc_D rfl (by omega) (gf := 41) (lb := #[.pointer (some ⟨A1, 0, none⟩)]) rfl trivial egAbove (above_seq0 (n - 1) A1 cap p W2 cA) (fun _ => rfl)
    (fun _ E X => J [] E X) (fun _ _ _ _ => False)
    (fun t E X Y hi hk => hJ _ _ _ _ hi hk) (fun c t E X Y hi hk => hi) D (fun r e => by have := HD.out r e; omega)
    (fun r hr e => by
      have := HD.out r e
      have h9 : A1 = W.heap.size + 1 := HA1.out
      have h8 : r = A1 := hr
      omega)
    (fun r hr => ⟨by
      have h9 : A1 = W.heap.size + 1 := HA1.out
      have h8 : r = A1 := hr
      omega, rfl⟩) (Nat.le_refl _) h2
    (fun _ _ _ _ _ => True)
    ?hAx ?assign ?body ?done ?stop
  case hAx => exact fun _ _ _ _ _ _ _ _ _ => trivial
  case assign =>
    intro l' pre x D1 Wx K hi hfr hK
    have HK : Hid (∀ a' D2 W', Fr D1 D2 Wx W' → _ → K a' W') := hK
    have hlt := hfr.lt
    clear hK
    gi_wp2
    refine HK.out _ (fun r => D1 r ∨ r = Wx.heap.size) _ ?_ trivial
    exact ((Fr.refl hlt).alloc _).names (fun _ h => h) (fun r hr => by
      rcases hr with hr | rfl
      · exact ⟨.inl hr, by simp; have := hlt r hr; omega⟩
      · exact ⟨.inr (.inr (Nat.le_refl _)), by simp⟩)
  case body =>
    intro l' pre x post D2 a' X heq
    simp at heq
  case done =>
    intro E X hi hfr hK hnE
    gi_wp2
    refine ⟨by simp, .inl ⟨_, _, rfl, run_takeDeferred hK, ?_⟩⟩
    exact ⟨_, results_none rfl _ _ _, ⟨_, rfl⟩, E, (F2.trans hfr).put _ (.inr (by omega)), .inl (hJ _ _ _ _ hi ((Kd.refl _ _).put _ hnE))⟩
  case stop =>
    rintro c pre x post E X heq
    simp at heq

theorem num_base {b b' : Nat} {W : World} {v : Value} {xs : List Nat} (h : NumRow b W v xs) (hb : b' ≤ b) : NumRow b' W v xs := by
  rcases h.2 with ⟨e1, e2⟩ | ⟨g, cap, cur, e1, e2, e3⟩
  · exact ⟨h.1, .inl ⟨e1, e2⟩⟩
  · exact ⟨h.1, .inr ⟨g, cap, cur, e1, by omega, e3⟩⟩

set_option maxRecDepth 100000 in
/-- The wanted hashes, collected. -/
theorem collect_wants (d : Nat) (B cap : Nat) (p : Option Addr) (s : Sel) (w : World) (hB : w.cell? ⟨B, 0, none⟩ = some (.slice p s.length cap)) (hv : PartsR d w.heap.size w (.slice p s.length cap) s) (hz : NamesOk s) (hl : (wantsV s).length ≤ 1099511627776) :
    Calls Try.prog 22 #[.func (.func 33) #[] #[.pointer (some ⟨B, 0, none⟩)]] w fun e w' => ∃ v, e = .returned v ∧ NumRow w.heap.size w' v (wantsV s) ∧ Below w.heap.size w w' := by
  have hBlt : B < w.heap.size := World.block_lt_of_cell? w ⟨B, 0, none⟩ hB
  cases hs : s with
  | nil =>
    subst hs
    exact collect_D 6 _ _ [] (fun r => r = B) w (by simp) egWanted (fun r hr => by have h8 : r = B := hr; omega) (wanted_seq0 6 (by omega) B cap p w hB)
  | cons q0 s0 =>
    rw [← hs]
    have hm : s.length = s0.length + 1 := by rw [hs]; rfl
    generalize s0.length = m at hm
    clear hs q0 s0
    have hmx : m + 1 ≤ maxLen := by rw [← hm]; exact RowT.short hv
    have hp : ∃ b off, p = some ⟨b, off, none⟩ := by
      obtain ⟨q, hq⟩ : ∃ q, s[0]? = some q := ⟨_, List.getElem?_eq_getElem (by omega)⟩
      obtain ⟨b, off, _, _, _, _, e, _⟩ := PartsR.get hv hq
      exact ⟨b, off, e⟩
    obtain ⟨b, off, rfl⟩ := hp
    have : Inhabited Cc := ⟨⟨.mk ⟨#[]⟩ [] [] [] [], none, 0, none, 0, none, 0, 0, none, 0, 0⟩⟩
    obtain ⟨F, hF⟩ := Deep.choose_lt (n := s.length) (fun j hj => part_in hv hz hj)
    have e : (aboveX F s m).flatMap (fun x => cpNames x.cp) = wantsV s := by
      rw [wantsV, hm, Nat.add_sub_cancel, ← aboveX_cp (F := F) (fun j hj => (hF j hj).cp), List.flatMap_map]
    have hq := wanted_seq 6 (by omega) B b off cap m s hm hmx F w (by rw [← hm]; exact hB) hF
    rw [e] at hq
    refine collect_D 6 _ _ (wantsV s) _ w hl egWanted (fun r hr => ?_) hq
    rcases hr with rfl | rfl | ⟨j, hj, ⟨h1, h2⟩ | ⟨h1, h2⟩⟩
    · exact hBlt
    · exact World.block_lt_of_cell? w ⟨r, _, none⟩ (hF 0 (by omega)).c1
    · exact (hF j hj).names.ids.lt h2 h1
    · exact (hF j hj).names.classes.lt h2 h1

set_option maxRecDepth 100000 in
/-- bloom.Wants AT EVERY SELECTOR. -/
theorem wants_any (d : Nat) (v : Value) (s : Sel) (w : World) (hv : PartsR d w.heap.size w v s) (hz : NamesOk s) (hl : (wantsV s).length ≤ 1099511627776) :
    Calls Try.prog 8 #[.agg #[v]] w fun e w' => ∃ x, e = .returned x ∧ NumRow w.heap.size w' x (wantsV s) ∧ Below w.heap.size w w' := by
  obtain ⟨p, cap, rfl⟩ := RowT.len hv
  obtain ⟨w1, hw1⟩ : ∃ w1, w.alloc (.cells #[.slice p s.length cap] 34) = w1 := ⟨_, rfl⟩
  have b1 : Below w.heap.size w w1 := by rw [← hw1]; exact (Below.refl _ w).alloc (Nat.le_refl _) _
  have c1 : w1.cell? ⟨w.heap.size, 0, none⟩ = some (.slice p s.length cap) := by rw [← hw1]; exact (Boxed.new w _ _).cell
  obtain ⟨w2, hw2⟩ : ∃ w2, w1.alloc (.cells #[.slice p s.length cap] 34) = w2 := ⟨_, rfl⟩
  have b2 : Below w1.heap.size w1 w2 := by rw [← hw2]; exact (Below.refl _ w1).alloc (Nat.le_refl _) _
  have c2 : w2.cell? ⟨w1.heap.size, 0, none⟩ = some (.slice p s.length cap) := by rw [← hw2]; exact (Boxed.new w1 _ _).cell
  have B2 := below_next b1 b2
  have hcol := collect_wants d w1.heap.size cap p s w2 c2 ((PartsR.below hv B2).mono B2.size) hz hl
  have hwa := wanted_any p s.length cap w1
  rw [hw2] at hwa
  have HB : Hid (Below _ _ _) := B2
  clear hv hz hl b1 b2 c2 B2 hw2
  go_enter Try.func8, Try.ntmps8
  go_wp2_with fail
  go_at_call 23
  refine Calls.mono hwa ?_
  clear hwa hw1 c1
  rintro e w' ⟨rfl, hww⟩
  obtain rfl := hww.symm
  clear hww
  go_wp2_with fail
  go_at_call 22
  refine Calls.mono hcol ?_
  clear hcol
  rintro e w3 ⟨v, rfl, h1, h2⟩
  obtain ⟨q, c, rfl⟩ := owns_form h1
  go_wp2
  go_ret
  exact ⟨_, rfl, num_base h1 HB.out.size, below_next HB.out h2⟩

end Go.Proofs.Ytiaikkbmgnaikaa.Bl
